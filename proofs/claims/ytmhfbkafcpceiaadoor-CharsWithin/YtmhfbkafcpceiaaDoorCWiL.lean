/-
  CharsWithin, whatever the numbers.
-/
import Derived.Test.YtmhfbkafcpceiaaDoorCWi
namespace Go.Proofs.YtmhfbkafcpceiaaDoor
open Go.RowKit Go.Maps
set_option linter.unusedVariables false

theorem combos (r : Int) : (nst r = true ∧ nch r = true ∧ txt r = true) ∨ (nst r = false ∧ nch r = true ∧ txt r = true) ∨ (nst r = false ∧ nch r = false ∧ txt r = true) ∨ (nst r = false ∧ nch r = false ∧ txt r = false) := by
  cases hT : txt r with
  | false => obtain ⟨a, b⟩ := nst_bad hT; simp [a, b]
  | true =>
    cases hS : nst r with
    | true => have : nch r = true := by unfold nch; rw [hS]; rfl
              simp [this]
    | false => cases nch r <;> simp
theorem combos2 (r : Int) : (nch r = true ∧ txt r = true) ∨ (nch r = false ∧ txt r = true) ∨ (nch r = false ∧ txt r = false) := by
  rcases combos r with ⟨a, b, c⟩ | ⟨a, b, c⟩ | ⟨a, b, c⟩ | ⟨a, b, c⟩ <;> simp [b, c]
theorem enc2_size (r q : Int) : (Utf8.encode r ++ Utf8.encode q).size < 140737488355328 := by
  have h1 := enc_size r
  have h2 := enc_size q
  have e : (Utf8.encode r ++ Utf8.encode q).size = (Utf8.encode r).size + (Utf8.encode q).size := by
    rw [← bl_length, bl_app, List.length_append, bl_length, bl_length]
  omega
theorem charsWithin_law (w : World) (L : LaidC w) (r q : Int) : Calls Tryd.prog 6 #[.int .i32 r, .int .i32 q] w fun e w' => e = .returned (.bool true) ∧ Fr [] w w' := by
  by_cases r1 : r < 0
  · have t := txt_bad (r := r) (by unfold good; omega)
    exact within_r1 w L r q (decide_eq_true r1) (nst_bad t).1 (nst_bad t).2 t
  by_cases r2 : 1114111 < r
  · have t := txt_bad (r := r) (by unfold good; omega)
    exact within_r2 w L r q (decide_eq_false r1) (decide_eq_true r2) (nst_bad t).1 (nst_bad t).2 t
  by_cases r3 : 55296 ≤ r ∧ r ≤ 57343
  · have t := txt_bad (r := r) (by unfold good; omega)
    exact within_r3 w L r q (decide_eq_false r1) (decide_eq_false r2) (decide_eq_true r3.1) (decide_eq_true r3.2) (nst_bad t).1 (nst_bad t).2 t
  have gr : good r := by unfold good; omega
  have n1 := (congrArg nameB (encL_bl r)).trans (name_one r gr)
  have x1 := (congrArg textsB (encL_bl r)).trans (texts_one r gr)
  have z1 : (Utf8.encode r).size < 140737488355328 := by have := enc_size r; omega
  have z2 := enc2_size r q
  have zA : (Utf8.encode r).size + (Utf8.encode q).size ≤ 9223372036854775807 := by have := enc_size r; have := enc_size q; omega
  have e1 := decide_eq_false r1
  have e2 := decide_eq_false r2
  have n2 : good q → nameB (bl (Utf8.encode r ++ Utf8.encode q)) = (nst r && nch q) := fun gq => by
    rw [bl_app]; exact name_two r q gr gq
  have x2 : good q → textsB (bl (Utf8.encode r ++ Utf8.encode q)) = (txt r && txt q) := fun gq => by
    rw [bl_app]; exact texts_two r q gr gq
  by_cases r4 : 55296 ≤ r
  · have e3 := decide_eq_true r4
    have e4 : decide (r ≤ 57343) = false := decide_eq_false (by omega)
    rcases combos r with ⟨s1, c1, t1⟩ | ⟨s1, c1, t1⟩ | ⟨s1, c1, t1⟩ | ⟨s1, c1, t1⟩
    · by_cases q1 : q < 0
      · exact within_q100 w L r q e1 e2 e3 e4 (decide_eq_true q1) s1 c1 t1 (txt_bad (by unfold good; omega))
      by_cases q2 : 1114111 < q
      · exact within_q101 w L r q e1 e2 e3 e4 (decide_eq_false q1) (decide_eq_true q2) s1 c1 t1 (txt_bad (by unfold good; omega))
      by_cases q3 : 55296 ≤ q
      · by_cases q4 : q ≤ 57343
        · exact within_q102 w L r q e1 e2 e3 e4 (decide_eq_false q1) (decide_eq_false q2) (decide_eq_true q3) (decide_eq_true q4) s1 c1 t1 (txt_bad (by unfold good; omega))
        have gq : good q := by unfold good; omega
        have n2 := n2 gq
        have x2 := x2 gq
        rw [s1] at n1 n2
        rw [t1] at x1 x2
        rcases combos2 q with ⟨c2, t2⟩ | ⟨c2, t2⟩ | ⟨c2, t2⟩
        · rw [c2] at n2
          rw [t2] at x2
          exact within_g1010 w L r q e1 e2 e3 e4 (decide_eq_false q1) (decide_eq_false q2) (decide_eq_true q3) (decide_eq_false q4) s1 c1 t1 c2 t2 n1 x1 n2 x2 zA z1 z2
        · rw [c2] at n2
          rw [t2] at x2
          exact within_g1011 w L r q e1 e2 e3 e4 (decide_eq_false q1) (decide_eq_false q2) (decide_eq_true q3) (decide_eq_false q4) s1 c1 t1 c2 t2 n1 x1 n2 x2 zA z1 z2
        · rw [c2] at n2
          rw [t2] at x2
          exact within_g1012 w L r q e1 e2 e3 e4 (decide_eq_false q1) (decide_eq_false q2) (decide_eq_true q3) (decide_eq_false q4) s1 c1 t1 c2 t2 n1 x1 n2 x2 zA z1 z2
      have gq : good q := by unfold good; omega
      have n2 := n2 gq
      have x2 := x2 gq
      rw [s1] at n1 n2
      rw [t1] at x1 x2
      rcases combos2 q with ⟨c2, t2⟩ | ⟨c2, t2⟩ | ⟨c2, t2⟩
      · rw [c2] at n2
        rw [t2] at x2
        exact within_g1000 w L r q e1 e2 e3 e4 (decide_eq_false q1) (decide_eq_false q2) (decide_eq_false q3) s1 c1 t1 c2 t2 n1 x1 n2 x2 zA z1 z2
      · rw [c2] at n2
        rw [t2] at x2
        exact within_g1001 w L r q e1 e2 e3 e4 (decide_eq_false q1) (decide_eq_false q2) (decide_eq_false q3) s1 c1 t1 c2 t2 n1 x1 n2 x2 zA z1 z2
      · rw [c2] at n2
        rw [t2] at x2
        exact within_g1002 w L r q e1 e2 e3 e4 (decide_eq_false q1) (decide_eq_false q2) (decide_eq_false q3) s1 c1 t1 c2 t2 n1 x1 n2 x2 zA z1 z2
    · by_cases q1 : q < 0
      · exact within_q110 w L r q e1 e2 e3 e4 (decide_eq_true q1) s1 c1 t1 (txt_bad (by unfold good; omega))
      by_cases q2 : 1114111 < q
      · exact within_q111 w L r q e1 e2 e3 e4 (decide_eq_false q1) (decide_eq_true q2) s1 c1 t1 (txt_bad (by unfold good; omega))
      by_cases q3 : 55296 ≤ q
      · by_cases q4 : q ≤ 57343
        · exact within_q112 w L r q e1 e2 e3 e4 (decide_eq_false q1) (decide_eq_false q2) (decide_eq_true q3) (decide_eq_true q4) s1 c1 t1 (txt_bad (by unfold good; omega))
        have gq : good q := by unfold good; omega
        have n2 := n2 gq
        have x2 := x2 gq
        rw [s1] at n1 n2
        rw [t1] at x1 x2
        rcases combos2 q with ⟨c2, t2⟩ | ⟨c2, t2⟩ | ⟨c2, t2⟩
        · rw [c2] at n2
          rw [t2] at x2
          exact within_g1110 w L r q e1 e2 e3 e4 (decide_eq_false q1) (decide_eq_false q2) (decide_eq_true q3) (decide_eq_false q4) s1 c1 t1 c2 t2 n1 x1 n2 x2 zA z1 z2
        · rw [c2] at n2
          rw [t2] at x2
          exact within_g1111 w L r q e1 e2 e3 e4 (decide_eq_false q1) (decide_eq_false q2) (decide_eq_true q3) (decide_eq_false q4) s1 c1 t1 c2 t2 n1 x1 n2 x2 zA z1 z2
        · rw [c2] at n2
          rw [t2] at x2
          exact within_g1112 w L r q e1 e2 e3 e4 (decide_eq_false q1) (decide_eq_false q2) (decide_eq_true q3) (decide_eq_false q4) s1 c1 t1 c2 t2 n1 x1 n2 x2 zA z1 z2
      have gq : good q := by unfold good; omega
      have n2 := n2 gq
      have x2 := x2 gq
      rw [s1] at n1 n2
      rw [t1] at x1 x2
      rcases combos2 q with ⟨c2, t2⟩ | ⟨c2, t2⟩ | ⟨c2, t2⟩
      · rw [c2] at n2
        rw [t2] at x2
        exact within_g1100 w L r q e1 e2 e3 e4 (decide_eq_false q1) (decide_eq_false q2) (decide_eq_false q3) s1 c1 t1 c2 t2 n1 x1 n2 x2 zA z1 z2
      · rw [c2] at n2
        rw [t2] at x2
        exact within_g1101 w L r q e1 e2 e3 e4 (decide_eq_false q1) (decide_eq_false q2) (decide_eq_false q3) s1 c1 t1 c2 t2 n1 x1 n2 x2 zA z1 z2
      · rw [c2] at n2
        rw [t2] at x2
        exact within_g1102 w L r q e1 e2 e3 e4 (decide_eq_false q1) (decide_eq_false q2) (decide_eq_false q3) s1 c1 t1 c2 t2 n1 x1 n2 x2 zA z1 z2
    · by_cases q1 : q < 0
      · exact within_q120 w L r q e1 e2 e3 e4 (decide_eq_true q1) s1 c1 t1 (txt_bad (by unfold good; omega))
      by_cases q2 : 1114111 < q
      · exact within_q121 w L r q e1 e2 e3 e4 (decide_eq_false q1) (decide_eq_true q2) s1 c1 t1 (txt_bad (by unfold good; omega))
      by_cases q3 : 55296 ≤ q
      · by_cases q4 : q ≤ 57343
        · exact within_q122 w L r q e1 e2 e3 e4 (decide_eq_false q1) (decide_eq_false q2) (decide_eq_true q3) (decide_eq_true q4) s1 c1 t1 (txt_bad (by unfold good; omega))
        have gq : good q := by unfold good; omega
        have n2 := n2 gq
        have x2 := x2 gq
        rw [s1] at n1 n2
        rw [t1] at x1 x2
        rcases combos2 q with ⟨c2, t2⟩ | ⟨c2, t2⟩ | ⟨c2, t2⟩
        · rw [c2] at n2
          rw [t2] at x2
          exact within_g1210 w L r q e1 e2 e3 e4 (decide_eq_false q1) (decide_eq_false q2) (decide_eq_true q3) (decide_eq_false q4) s1 c1 t1 c2 t2 n1 x1 n2 x2 zA z1 z2
        · rw [c2] at n2
          rw [t2] at x2
          exact within_g1211 w L r q e1 e2 e3 e4 (decide_eq_false q1) (decide_eq_false q2) (decide_eq_true q3) (decide_eq_false q4) s1 c1 t1 c2 t2 n1 x1 n2 x2 zA z1 z2
        · rw [c2] at n2
          rw [t2] at x2
          exact within_g1212 w L r q e1 e2 e3 e4 (decide_eq_false q1) (decide_eq_false q2) (decide_eq_true q3) (decide_eq_false q4) s1 c1 t1 c2 t2 n1 x1 n2 x2 zA z1 z2
      have gq : good q := by unfold good; omega
      have n2 := n2 gq
      have x2 := x2 gq
      rw [s1] at n1 n2
      rw [t1] at x1 x2
      rcases combos2 q with ⟨c2, t2⟩ | ⟨c2, t2⟩ | ⟨c2, t2⟩
      · rw [c2] at n2
        rw [t2] at x2
        exact within_g1200 w L r q e1 e2 e3 e4 (decide_eq_false q1) (decide_eq_false q2) (decide_eq_false q3) s1 c1 t1 c2 t2 n1 x1 n2 x2 zA z1 z2
      · rw [c2] at n2
        rw [t2] at x2
        exact within_g1201 w L r q e1 e2 e3 e4 (decide_eq_false q1) (decide_eq_false q2) (decide_eq_false q3) s1 c1 t1 c2 t2 n1 x1 n2 x2 zA z1 z2
      · rw [c2] at n2
        rw [t2] at x2
        exact within_g1202 w L r q e1 e2 e3 e4 (decide_eq_false q1) (decide_eq_false q2) (decide_eq_false q3) s1 c1 t1 c2 t2 n1 x1 n2 x2 zA z1 z2
    · by_cases q1 : q < 0
      · exact within_q130 w L r q e1 e2 e3 e4 (decide_eq_true q1) s1 c1 t1 (txt_bad (by unfold good; omega))
      by_cases q2 : 1114111 < q
      · exact within_q131 w L r q e1 e2 e3 e4 (decide_eq_false q1) (decide_eq_true q2) s1 c1 t1 (txt_bad (by unfold good; omega))
      by_cases q3 : 55296 ≤ q
      · by_cases q4 : q ≤ 57343
        · exact within_q132 w L r q e1 e2 e3 e4 (decide_eq_false q1) (decide_eq_false q2) (decide_eq_true q3) (decide_eq_true q4) s1 c1 t1 (txt_bad (by unfold good; omega))
        have gq : good q := by unfold good; omega
        have n2 := n2 gq
        have x2 := x2 gq
        rw [s1] at n1 n2
        rw [t1] at x1 x2
        rcases combos2 q with ⟨c2, t2⟩ | ⟨c2, t2⟩ | ⟨c2, t2⟩
        · rw [c2] at n2
          rw [t2] at x2
          exact within_g1310 w L r q e1 e2 e3 e4 (decide_eq_false q1) (decide_eq_false q2) (decide_eq_true q3) (decide_eq_false q4) s1 c1 t1 c2 t2 n1 x1 n2 x2 zA z1 z2
        · rw [c2] at n2
          rw [t2] at x2
          exact within_g1311 w L r q e1 e2 e3 e4 (decide_eq_false q1) (decide_eq_false q2) (decide_eq_true q3) (decide_eq_false q4) s1 c1 t1 c2 t2 n1 x1 n2 x2 zA z1 z2
        · rw [c2] at n2
          rw [t2] at x2
          exact within_g1312 w L r q e1 e2 e3 e4 (decide_eq_false q1) (decide_eq_false q2) (decide_eq_true q3) (decide_eq_false q4) s1 c1 t1 c2 t2 n1 x1 n2 x2 zA z1 z2
      have gq : good q := by unfold good; omega
      have n2 := n2 gq
      have x2 := x2 gq
      rw [s1] at n1 n2
      rw [t1] at x1 x2
      rcases combos2 q with ⟨c2, t2⟩ | ⟨c2, t2⟩ | ⟨c2, t2⟩
      · rw [c2] at n2
        rw [t2] at x2
        exact within_g1300 w L r q e1 e2 e3 e4 (decide_eq_false q1) (decide_eq_false q2) (decide_eq_false q3) s1 c1 t1 c2 t2 n1 x1 n2 x2 zA z1 z2
      · rw [c2] at n2
        rw [t2] at x2
        exact within_g1301 w L r q e1 e2 e3 e4 (decide_eq_false q1) (decide_eq_false q2) (decide_eq_false q3) s1 c1 t1 c2 t2 n1 x1 n2 x2 zA z1 z2
      · rw [c2] at n2
        rw [t2] at x2
        exact within_g1302 w L r q e1 e2 e3 e4 (decide_eq_false q1) (decide_eq_false q2) (decide_eq_false q3) s1 c1 t1 c2 t2 n1 x1 n2 x2 zA z1 z2
  · have e3 := decide_eq_false r4
    rcases combos r with ⟨s1, c1, t1⟩ | ⟨s1, c1, t1⟩ | ⟨s1, c1, t1⟩ | ⟨s1, c1, t1⟩
    · by_cases q1 : q < 0
      · exact within_q000 w L r q e1 e2 e3 (decide_eq_true q1) s1 c1 t1 (txt_bad (by unfold good; omega))
      by_cases q2 : 1114111 < q
      · exact within_q001 w L r q e1 e2 e3 (decide_eq_false q1) (decide_eq_true q2) s1 c1 t1 (txt_bad (by unfold good; omega))
      by_cases q3 : 55296 ≤ q
      · by_cases q4 : q ≤ 57343
        · exact within_q002 w L r q e1 e2 e3 (decide_eq_false q1) (decide_eq_false q2) (decide_eq_true q3) (decide_eq_true q4) s1 c1 t1 (txt_bad (by unfold good; omega))
        have gq : good q := by unfold good; omega
        have n2 := n2 gq
        have x2 := x2 gq
        rw [s1] at n1 n2
        rw [t1] at x1 x2
        rcases combos2 q with ⟨c2, t2⟩ | ⟨c2, t2⟩ | ⟨c2, t2⟩
        · rw [c2] at n2
          rw [t2] at x2
          exact within_g0010 w L r q e1 e2 e3 (decide_eq_false q1) (decide_eq_false q2) (decide_eq_true q3) (decide_eq_false q4) s1 c1 t1 c2 t2 n1 x1 n2 x2 zA z1 z2
        · rw [c2] at n2
          rw [t2] at x2
          exact within_g0011 w L r q e1 e2 e3 (decide_eq_false q1) (decide_eq_false q2) (decide_eq_true q3) (decide_eq_false q4) s1 c1 t1 c2 t2 n1 x1 n2 x2 zA z1 z2
        · rw [c2] at n2
          rw [t2] at x2
          exact within_g0012 w L r q e1 e2 e3 (decide_eq_false q1) (decide_eq_false q2) (decide_eq_true q3) (decide_eq_false q4) s1 c1 t1 c2 t2 n1 x1 n2 x2 zA z1 z2
      have gq : good q := by unfold good; omega
      have n2 := n2 gq
      have x2 := x2 gq
      rw [s1] at n1 n2
      rw [t1] at x1 x2
      rcases combos2 q with ⟨c2, t2⟩ | ⟨c2, t2⟩ | ⟨c2, t2⟩
      · rw [c2] at n2
        rw [t2] at x2
        exact within_g0000 w L r q e1 e2 e3 (decide_eq_false q1) (decide_eq_false q2) (decide_eq_false q3) s1 c1 t1 c2 t2 n1 x1 n2 x2 zA z1 z2
      · rw [c2] at n2
        rw [t2] at x2
        exact within_g0001 w L r q e1 e2 e3 (decide_eq_false q1) (decide_eq_false q2) (decide_eq_false q3) s1 c1 t1 c2 t2 n1 x1 n2 x2 zA z1 z2
      · rw [c2] at n2
        rw [t2] at x2
        exact within_g0002 w L r q e1 e2 e3 (decide_eq_false q1) (decide_eq_false q2) (decide_eq_false q3) s1 c1 t1 c2 t2 n1 x1 n2 x2 zA z1 z2
    · by_cases q1 : q < 0
      · exact within_q010 w L r q e1 e2 e3 (decide_eq_true q1) s1 c1 t1 (txt_bad (by unfold good; omega))
      by_cases q2 : 1114111 < q
      · exact within_q011 w L r q e1 e2 e3 (decide_eq_false q1) (decide_eq_true q2) s1 c1 t1 (txt_bad (by unfold good; omega))
      by_cases q3 : 55296 ≤ q
      · by_cases q4 : q ≤ 57343
        · exact within_q012 w L r q e1 e2 e3 (decide_eq_false q1) (decide_eq_false q2) (decide_eq_true q3) (decide_eq_true q4) s1 c1 t1 (txt_bad (by unfold good; omega))
        have gq : good q := by unfold good; omega
        have n2 := n2 gq
        have x2 := x2 gq
        rw [s1] at n1 n2
        rw [t1] at x1 x2
        rcases combos2 q with ⟨c2, t2⟩ | ⟨c2, t2⟩ | ⟨c2, t2⟩
        · rw [c2] at n2
          rw [t2] at x2
          exact within_g0110 w L r q e1 e2 e3 (decide_eq_false q1) (decide_eq_false q2) (decide_eq_true q3) (decide_eq_false q4) s1 c1 t1 c2 t2 n1 x1 n2 x2 zA z1 z2
        · rw [c2] at n2
          rw [t2] at x2
          exact within_g0111 w L r q e1 e2 e3 (decide_eq_false q1) (decide_eq_false q2) (decide_eq_true q3) (decide_eq_false q4) s1 c1 t1 c2 t2 n1 x1 n2 x2 zA z1 z2
        · rw [c2] at n2
          rw [t2] at x2
          exact within_g0112 w L r q e1 e2 e3 (decide_eq_false q1) (decide_eq_false q2) (decide_eq_true q3) (decide_eq_false q4) s1 c1 t1 c2 t2 n1 x1 n2 x2 zA z1 z2
      have gq : good q := by unfold good; omega
      have n2 := n2 gq
      have x2 := x2 gq
      rw [s1] at n1 n2
      rw [t1] at x1 x2
      rcases combos2 q with ⟨c2, t2⟩ | ⟨c2, t2⟩ | ⟨c2, t2⟩
      · rw [c2] at n2
        rw [t2] at x2
        exact within_g0100 w L r q e1 e2 e3 (decide_eq_false q1) (decide_eq_false q2) (decide_eq_false q3) s1 c1 t1 c2 t2 n1 x1 n2 x2 zA z1 z2
      · rw [c2] at n2
        rw [t2] at x2
        exact within_g0101 w L r q e1 e2 e3 (decide_eq_false q1) (decide_eq_false q2) (decide_eq_false q3) s1 c1 t1 c2 t2 n1 x1 n2 x2 zA z1 z2
      · rw [c2] at n2
        rw [t2] at x2
        exact within_g0102 w L r q e1 e2 e3 (decide_eq_false q1) (decide_eq_false q2) (decide_eq_false q3) s1 c1 t1 c2 t2 n1 x1 n2 x2 zA z1 z2
    · by_cases q1 : q < 0
      · exact within_q020 w L r q e1 e2 e3 (decide_eq_true q1) s1 c1 t1 (txt_bad (by unfold good; omega))
      by_cases q2 : 1114111 < q
      · exact within_q021 w L r q e1 e2 e3 (decide_eq_false q1) (decide_eq_true q2) s1 c1 t1 (txt_bad (by unfold good; omega))
      by_cases q3 : 55296 ≤ q
      · by_cases q4 : q ≤ 57343
        · exact within_q022 w L r q e1 e2 e3 (decide_eq_false q1) (decide_eq_false q2) (decide_eq_true q3) (decide_eq_true q4) s1 c1 t1 (txt_bad (by unfold good; omega))
        have gq : good q := by unfold good; omega
        have n2 := n2 gq
        have x2 := x2 gq
        rw [s1] at n1 n2
        rw [t1] at x1 x2
        rcases combos2 q with ⟨c2, t2⟩ | ⟨c2, t2⟩ | ⟨c2, t2⟩
        · rw [c2] at n2
          rw [t2] at x2
          exact within_g0210 w L r q e1 e2 e3 (decide_eq_false q1) (decide_eq_false q2) (decide_eq_true q3) (decide_eq_false q4) s1 c1 t1 c2 t2 n1 x1 n2 x2 zA z1 z2
        · rw [c2] at n2
          rw [t2] at x2
          exact within_g0211 w L r q e1 e2 e3 (decide_eq_false q1) (decide_eq_false q2) (decide_eq_true q3) (decide_eq_false q4) s1 c1 t1 c2 t2 n1 x1 n2 x2 zA z1 z2
        · rw [c2] at n2
          rw [t2] at x2
          exact within_g0212 w L r q e1 e2 e3 (decide_eq_false q1) (decide_eq_false q2) (decide_eq_true q3) (decide_eq_false q4) s1 c1 t1 c2 t2 n1 x1 n2 x2 zA z1 z2
      have gq : good q := by unfold good; omega
      have n2 := n2 gq
      have x2 := x2 gq
      rw [s1] at n1 n2
      rw [t1] at x1 x2
      rcases combos2 q with ⟨c2, t2⟩ | ⟨c2, t2⟩ | ⟨c2, t2⟩
      · rw [c2] at n2
        rw [t2] at x2
        exact within_g0200 w L r q e1 e2 e3 (decide_eq_false q1) (decide_eq_false q2) (decide_eq_false q3) s1 c1 t1 c2 t2 n1 x1 n2 x2 zA z1 z2
      · rw [c2] at n2
        rw [t2] at x2
        exact within_g0201 w L r q e1 e2 e3 (decide_eq_false q1) (decide_eq_false q2) (decide_eq_false q3) s1 c1 t1 c2 t2 n1 x1 n2 x2 zA z1 z2
      · rw [c2] at n2
        rw [t2] at x2
        exact within_g0202 w L r q e1 e2 e3 (decide_eq_false q1) (decide_eq_false q2) (decide_eq_false q3) s1 c1 t1 c2 t2 n1 x1 n2 x2 zA z1 z2
    · by_cases q1 : q < 0
      · exact within_q030 w L r q e1 e2 e3 (decide_eq_true q1) s1 c1 t1 (txt_bad (by unfold good; omega))
      by_cases q2 : 1114111 < q
      · exact within_q031 w L r q e1 e2 e3 (decide_eq_false q1) (decide_eq_true q2) s1 c1 t1 (txt_bad (by unfold good; omega))
      by_cases q3 : 55296 ≤ q
      · by_cases q4 : q ≤ 57343
        · exact within_q032 w L r q e1 e2 e3 (decide_eq_false q1) (decide_eq_false q2) (decide_eq_true q3) (decide_eq_true q4) s1 c1 t1 (txt_bad (by unfold good; omega))
        have gq : good q := by unfold good; omega
        have n2 := n2 gq
        have x2 := x2 gq
        rw [s1] at n1 n2
        rw [t1] at x1 x2
        rcases combos2 q with ⟨c2, t2⟩ | ⟨c2, t2⟩ | ⟨c2, t2⟩
        · rw [c2] at n2
          rw [t2] at x2
          exact within_g0310 w L r q e1 e2 e3 (decide_eq_false q1) (decide_eq_false q2) (decide_eq_true q3) (decide_eq_false q4) s1 c1 t1 c2 t2 n1 x1 n2 x2 zA z1 z2
        · rw [c2] at n2
          rw [t2] at x2
          exact within_g0311 w L r q e1 e2 e3 (decide_eq_false q1) (decide_eq_false q2) (decide_eq_true q3) (decide_eq_false q4) s1 c1 t1 c2 t2 n1 x1 n2 x2 zA z1 z2
        · rw [c2] at n2
          rw [t2] at x2
          exact within_g0312 w L r q e1 e2 e3 (decide_eq_false q1) (decide_eq_false q2) (decide_eq_true q3) (decide_eq_false q4) s1 c1 t1 c2 t2 n1 x1 n2 x2 zA z1 z2
      have gq : good q := by unfold good; omega
      have n2 := n2 gq
      have x2 := x2 gq
      rw [s1] at n1 n2
      rw [t1] at x1 x2
      rcases combos2 q with ⟨c2, t2⟩ | ⟨c2, t2⟩ | ⟨c2, t2⟩
      · rw [c2] at n2
        rw [t2] at x2
        exact within_g0300 w L r q e1 e2 e3 (decide_eq_false q1) (decide_eq_false q2) (decide_eq_false q3) s1 c1 t1 c2 t2 n1 x1 n2 x2 zA z1 z2
      · rw [c2] at n2
        rw [t2] at x2
        exact within_g0301 w L r q e1 e2 e3 (decide_eq_false q1) (decide_eq_false q2) (decide_eq_false q3) s1 c1 t1 c2 t2 n1 x1 n2 x2 zA z1 z2
      · rw [c2] at n2
        rw [t2] at x2
        exact within_g0302 w L r q e1 e2 e3 (decide_eq_false q1) (decide_eq_false q2) (decide_eq_false q3) s1 c1 t1 c2 t2 n1 x1 n2 x2 zA z1 z2
end Go.Proofs.YtmhfbkafcpceiaaDoor
