/-
  The document's own answers: within, Char, NameStart, NameChar, Next.
-/
import Derived.Test.YtjdcfaaoicnajaaDoorCWhat
namespace Go.Proofs.YtjdcfaaoicnajaaDoor
open Go.RowKit Go.Maps

theorem within_yes (w : World) (r a b : Int) (h1 : a ≤ r) (h2 : r ≤ b) :
    Calls Tryd.prog 77 #[.int .i32 r, .int .i32 a, .int .i32 b] w fun e w' => e = .returned (.bool true) ∧ w' = w := by
  go_enter Tryd.func77, Tryd.ntmps77
  go_wp2
  go_ret
  exact ⟨rfl, rfl⟩
theorem within_no (w : World) (r a b : Int) (h : ¬ (a ≤ r ∧ r ≤ b)) :
    Calls Tryd.prog 77 #[.int .i32 r, .int .i32 a, .int .i32 b] w fun e w' => e = .returned (.bool false) ∧ w' = w := by
  by_cases h1 : a ≤ r
  · have h2 : ¬ r ≤ b := fun x => h ⟨h1, x⟩
    clear h
    go_enter Tryd.func77, Tryd.ntmps77
    go_wp2
    go_ret
    exact ⟨rfl, rfl⟩
  · clear h
    go_enter Tryd.func77, Tryd.ntmps77
    go_wp2
    go_ret
    exact ⟨rfl, rfl⟩
def wi (r a b : Int) : Bool := decide (a ≤ r ∧ r ≤ b)
theorem within_any (w : World) (r a b : Int) : Calls Tryd.prog 77 #[.int .i32 r, .int .i32 a, .int .i32 b] w fun e w' => e = .returned (.bool (wi r a b)) ∧ w' = w := by
  unfold wi
  by_cases h : a ≤ r ∧ r ≤ b
  · rw [decide_eq_true h]; exact within_yes w r a b h.1 h.2
  · rw [decide_eq_false h]; exact within_no w r a b h
theorem Hid.mk {p : Prop} (h : p) : Hid p := h
theorem not_one {r a : Int} (h : ¬ r = a) : ¬ (a ≤ r ∧ r ≤ a) := by omega
theorem not_two {r a b : Int} (h : ¬ r = a) (k : ¬ r = b) (e : b = a + 1) : ¬ (a ≤ r ∧ r ≤ b) := by omega
theorem in_of {L : List (Int × Int)} {r : Int} (p : Int × Int) (hp : p ∈ L) (h : p.1 ≤ r ∧ r ≤ p.2) : inR L r = true := List.any_eq_true.2 ⟨p, hp, decide_eq_true h⟩

set_option maxHeartbeats 4000000 in
set_option maxRecDepth 100000 in
theorem refChar_any (w : World) (r : Int) :
    Calls Tryd.prog 67 #[.int .i32 r] w fun e w' => e = .returned (.bool (txt r)) ∧ w' = w := by
  by_cases h0 : r = 9
  · have e : txt r = true := in_of (L := rText) (9, 10) (by decide) ⟨by rw [h0]; decide, by rw [h0]; decide⟩
    rw [e]
    clear e
    have c0 : (r == 9) = true := beq_iff_eq.2 h0
    clear h0
    go_enter Tryd.func67, Tryd.ntmps67
    go_wp2_with (first | (go_at_call 77; refine (within_any _ _ _ _).mono ?_; rintro e w5 ⟨rfl, rfl⟩))
    go_ret
    exact ⟨by first | rfl | trivial, by first | rfl | trivial⟩
  have c0 : (r == 9) = false := by rw [beq_eq_false_iff_ne]; exact h0
  have H0 := Hid.mk h0
  clear h0
  by_cases h1 : r = 10
  · have e : txt r = true := in_of (L := rText) (9, 10) (by decide) ⟨by rw [h1]; decide, by rw [h1]; decide⟩
    rw [e]
    clear e
    have c1 : (r == 10) = true := beq_iff_eq.2 h1
    clear h1
    go_enter Tryd.func67, Tryd.ntmps67
    go_wp2_with (first | (go_at_call 77; refine (within_any _ _ _ _).mono ?_; rintro e w5 ⟨rfl, rfl⟩))
    go_ret
    exact ⟨by first | rfl | trivial, by first | rfl | trivial⟩
  have c1 : (r == 10) = false := by rw [beq_eq_false_iff_ne]; exact h1
  have H1 := Hid.mk h1
  clear h1
  by_cases h2 : r = 13
  · have e : txt r = true := in_of (L := rText) (13, 13) (by decide) ⟨by rw [h2]; decide, by rw [h2]; decide⟩
    rw [e]
    clear e
    have c2 : (r == 13) = true := beq_iff_eq.2 h2
    clear h2
    go_enter Tryd.func67, Tryd.ntmps67
    go_wp2_with (first | (go_at_call 77; refine (within_any _ _ _ _).mono ?_; rintro e w5 ⟨rfl, rfl⟩))
    go_ret
    exact ⟨by first | rfl | trivial, by first | rfl | trivial⟩
  have c2 : (r == 13) = false := by rw [beq_eq_false_iff_ne]; exact h2
  have H2 := Hid.mk h2
  clear h2
  by_cases h3 : 32 ≤ r ∧ r ≤ 55295
  · have e : txt r = true := in_of (L := rText) (32, 55295) (by decide) h3
    rw [e]
    clear e
    have c3 : wi r 32 55295 = true := decide_eq_true h3
    clear h3
    go_enter Tryd.func67, Tryd.ntmps67
    go_wp2_with (first | (go_at_call 77; refine (within_any _ _ _ _).mono ?_; rintro e w5 ⟨rfl, rfl⟩))
    go_ret
    exact ⟨by first | rfl | trivial, by first | rfl | trivial⟩
  have c3 : wi r 32 55295 = false := decide_eq_false h3
  have H3 := Hid.mk h3
  clear h3
  by_cases h4 : 57344 ≤ r ∧ r ≤ 65533
  · have e : txt r = true := in_of (L := rText) (57344, 65533) (by decide) h4
    rw [e]
    clear e
    have c4 : wi r 57344 65533 = true := decide_eq_true h4
    clear h4
    go_enter Tryd.func67, Tryd.ntmps67
    go_wp2_with (first | (go_at_call 77; refine (within_any _ _ _ _).mono ?_; rintro e w5 ⟨rfl, rfl⟩))
    go_ret
    exact ⟨by first | rfl | trivial, by first | rfl | trivial⟩
  have c4 : wi r 57344 65533 = false := decide_eq_false h4
  have H4 := Hid.mk h4
  clear h4
  by_cases h5 : 65536 ≤ r ∧ r ≤ 1114111
  · have e : txt r = true := in_of (L := rText) (65536, 1114111) (by decide) h5
    rw [e]
    clear e
    have c5 : wi r 65536 1114111 = true := decide_eq_true h5
    clear h5
    go_enter Tryd.func67, Tryd.ntmps67
    go_wp2_with (first | (go_at_call 77; refine (within_any _ _ _ _).mono ?_; rintro e w5 ⟨rfl, rfl⟩))
    go_ret
    exact ⟨by first | rfl | trivial, by first | rfl | trivial⟩
  have c5 : wi r 65536 1114111 = false := decide_eq_false h5
  have H5 := Hid.mk h5
  clear h5
  have e : txt r = false := by
    simp only [txt, inR, rText, List.any_cons, List.any_nil, Bool.or_eq_false_iff, decide_eq_false_iff_not]
    exact ⟨not_two H0.out H1.out rfl, not_one H2.out, H3.out, H4.out, H5.out, trivial⟩
  rw [e]
  clear e
  go_enter Tryd.func67, Tryd.ntmps67
  go_wp2_with (first | (go_at_call 77; refine (within_any _ _ _ _).mono ?_; rintro e w5 ⟨rfl, rfl⟩))
  go_ret
  exact ⟨by first | rfl | trivial, by first | rfl | trivial⟩
set_option maxHeartbeats 4000000 in
set_option maxRecDepth 100000 in
theorem refStart_any (w : World) (r : Int) :
    Calls Tryd.prog 69 #[.int .i32 r] w fun e w' => e = .returned (.bool (nst r)) ∧ w' = w := by
  by_cases h0 : 97 ≤ r ∧ r ≤ 122
  · have e : nst r = true := in_of (L := rStart) (97, 122) (by decide) h0
    rw [e]
    clear e
    have c0 : wi r 97 122 = true := decide_eq_true h0
    clear h0
    go_enter Tryd.func69, Tryd.ntmps69
    go_wp2_with (first | (go_at_call 77; refine (within_any _ _ _ _).mono ?_; rintro e w5 ⟨rfl, rfl⟩))
    go_ret
    exact ⟨by first | rfl | trivial, by first | rfl | trivial⟩
  have c0 : wi r 97 122 = false := decide_eq_false h0
  have H0 := Hid.mk h0
  clear h0
  by_cases h1 : 65 ≤ r ∧ r ≤ 90
  · have e : nst r = true := in_of (L := rStart) (65, 90) (by decide) h1
    rw [e]
    clear e
    have c1 : wi r 65 90 = true := decide_eq_true h1
    clear h1
    go_enter Tryd.func69, Tryd.ntmps69
    go_wp2_with (first | (go_at_call 77; refine (within_any _ _ _ _).mono ?_; rintro e w5 ⟨rfl, rfl⟩))
    go_ret
    exact ⟨by first | rfl | trivial, by first | rfl | trivial⟩
  have c1 : wi r 65 90 = false := decide_eq_false h1
  have H1 := Hid.mk h1
  clear h1
  by_cases h2 : r = 95
  · have e : nst r = true := in_of (L := rStart) (95, 95) (by decide) ⟨by rw [h2]; decide, by rw [h2]; decide⟩
    rw [e]
    clear e
    have c2 : (r == 95) = true := beq_iff_eq.2 h2
    clear h2
    go_enter Tryd.func69, Tryd.ntmps69
    go_wp2_with (first | (go_at_call 77; refine (within_any _ _ _ _).mono ?_; rintro e w5 ⟨rfl, rfl⟩))
    go_ret
    exact ⟨by first | rfl | trivial, by first | rfl | trivial⟩
  have c2 : (r == 95) = false := by rw [beq_eq_false_iff_ne]; exact h2
  have H2 := Hid.mk h2
  clear h2
  by_cases h3 : 192 ≤ r ∧ r ≤ 214
  · have e : nst r = true := in_of (L := rStart) (192, 214) (by decide) h3
    rw [e]
    clear e
    have c3 : wi r 192 214 = true := decide_eq_true h3
    clear h3
    go_enter Tryd.func69, Tryd.ntmps69
    go_wp2_with (first | (go_at_call 77; refine (within_any _ _ _ _).mono ?_; rintro e w5 ⟨rfl, rfl⟩))
    go_ret
    exact ⟨by first | rfl | trivial, by first | rfl | trivial⟩
  have c3 : wi r 192 214 = false := decide_eq_false h3
  have H3 := Hid.mk h3
  clear h3
  by_cases h4 : 216 ≤ r ∧ r ≤ 246
  · have e : nst r = true := in_of (L := rStart) (216, 246) (by decide) h4
    rw [e]
    clear e
    have c4 : wi r 216 246 = true := decide_eq_true h4
    clear h4
    go_enter Tryd.func69, Tryd.ntmps69
    go_wp2_with (first | (go_at_call 77; refine (within_any _ _ _ _).mono ?_; rintro e w5 ⟨rfl, rfl⟩))
    go_ret
    exact ⟨by first | rfl | trivial, by first | rfl | trivial⟩
  have c4 : wi r 216 246 = false := decide_eq_false h4
  have H4 := Hid.mk h4
  clear h4
  by_cases h5 : 248 ≤ r ∧ r ≤ 767
  · have e : nst r = true := in_of (L := rStart) (248, 767) (by decide) h5
    rw [e]
    clear e
    have c5 : wi r 248 767 = true := decide_eq_true h5
    clear h5
    go_enter Tryd.func69, Tryd.ntmps69
    go_wp2_with (first | (go_at_call 77; refine (within_any _ _ _ _).mono ?_; rintro e w5 ⟨rfl, rfl⟩))
    go_ret
    exact ⟨by first | rfl | trivial, by first | rfl | trivial⟩
  have c5 : wi r 248 767 = false := decide_eq_false h5
  have H5 := Hid.mk h5
  clear h5
  by_cases h6 : 880 ≤ r ∧ r ≤ 893
  · have e : nst r = true := in_of (L := rStart) (880, 893) (by decide) h6
    rw [e]
    clear e
    have c6 : wi r 880 893 = true := decide_eq_true h6
    clear h6
    go_enter Tryd.func69, Tryd.ntmps69
    go_wp2_with (first | (go_at_call 77; refine (within_any _ _ _ _).mono ?_; rintro e w5 ⟨rfl, rfl⟩))
    go_ret
    exact ⟨by first | rfl | trivial, by first | rfl | trivial⟩
  have c6 : wi r 880 893 = false := decide_eq_false h6
  have H6 := Hid.mk h6
  clear h6
  by_cases h7 : 895 ≤ r ∧ r ≤ 8191
  · have e : nst r = true := in_of (L := rStart) (895, 8191) (by decide) h7
    rw [e]
    clear e
    have c7 : wi r 895 8191 = true := decide_eq_true h7
    clear h7
    go_enter Tryd.func69, Tryd.ntmps69
    go_wp2_with (first | (go_at_call 77; refine (within_any _ _ _ _).mono ?_; rintro e w5 ⟨rfl, rfl⟩))
    go_ret
    exact ⟨by first | rfl | trivial, by first | rfl | trivial⟩
  have c7 : wi r 895 8191 = false := decide_eq_false h7
  have H7 := Hid.mk h7
  clear h7
  by_cases h8 : r = 8204
  · have e : nst r = true := in_of (L := rStart) (8204, 8205) (by decide) ⟨by rw [h8]; decide, by rw [h8]; decide⟩
    rw [e]
    clear e
    have c8 : (r == 8204) = true := beq_iff_eq.2 h8
    clear h8
    go_enter Tryd.func69, Tryd.ntmps69
    go_wp2_with (first | (go_at_call 77; refine (within_any _ _ _ _).mono ?_; rintro e w5 ⟨rfl, rfl⟩))
    go_ret
    exact ⟨by first | rfl | trivial, by first | rfl | trivial⟩
  have c8 : (r == 8204) = false := by rw [beq_eq_false_iff_ne]; exact h8
  have H8 := Hid.mk h8
  clear h8
  by_cases h9 : r = 8205
  · have e : nst r = true := in_of (L := rStart) (8204, 8205) (by decide) ⟨by rw [h9]; decide, by rw [h9]; decide⟩
    rw [e]
    clear e
    have c9 : (r == 8205) = true := beq_iff_eq.2 h9
    clear h9
    go_enter Tryd.func69, Tryd.ntmps69
    go_wp2_with (first | (go_at_call 77; refine (within_any _ _ _ _).mono ?_; rintro e w5 ⟨rfl, rfl⟩))
    go_ret
    exact ⟨by first | rfl | trivial, by first | rfl | trivial⟩
  have c9 : (r == 8205) = false := by rw [beq_eq_false_iff_ne]; exact h9
  have H9 := Hid.mk h9
  clear h9
  by_cases h10 : 8304 ≤ r ∧ r ≤ 8591
  · have e : nst r = true := in_of (L := rStart) (8304, 8591) (by decide) h10
    rw [e]
    clear e
    have c10 : wi r 8304 8591 = true := decide_eq_true h10
    clear h10
    go_enter Tryd.func69, Tryd.ntmps69
    go_wp2_with (first | (go_at_call 77; refine (within_any _ _ _ _).mono ?_; rintro e w5 ⟨rfl, rfl⟩))
    go_ret
    exact ⟨by first | rfl | trivial, by first | rfl | trivial⟩
  have c10 : wi r 8304 8591 = false := decide_eq_false h10
  have H10 := Hid.mk h10
  clear h10
  by_cases h11 : 11264 ≤ r ∧ r ≤ 12271
  · have e : nst r = true := in_of (L := rStart) (11264, 12271) (by decide) h11
    rw [e]
    clear e
    have c11 : wi r 11264 12271 = true := decide_eq_true h11
    clear h11
    go_enter Tryd.func69, Tryd.ntmps69
    go_wp2_with (first | (go_at_call 77; refine (within_any _ _ _ _).mono ?_; rintro e w5 ⟨rfl, rfl⟩))
    go_ret
    exact ⟨by first | rfl | trivial, by first | rfl | trivial⟩
  have c11 : wi r 11264 12271 = false := decide_eq_false h11
  have H11 := Hid.mk h11
  clear h11
  by_cases h12 : 12289 ≤ r ∧ r ≤ 55295
  · have e : nst r = true := in_of (L := rStart) (12289, 55295) (by decide) h12
    rw [e]
    clear e
    have c12 : wi r 12289 55295 = true := decide_eq_true h12
    clear h12
    go_enter Tryd.func69, Tryd.ntmps69
    go_wp2_with (first | (go_at_call 77; refine (within_any _ _ _ _).mono ?_; rintro e w5 ⟨rfl, rfl⟩))
    go_ret
    exact ⟨by first | rfl | trivial, by first | rfl | trivial⟩
  have c12 : wi r 12289 55295 = false := decide_eq_false h12
  have H12 := Hid.mk h12
  clear h12
  by_cases h13 : 63744 ≤ r ∧ r ≤ 64975
  · have e : nst r = true := in_of (L := rStart) (63744, 64975) (by decide) h13
    rw [e]
    clear e
    have c13 : wi r 63744 64975 = true := decide_eq_true h13
    clear h13
    go_enter Tryd.func69, Tryd.ntmps69
    go_wp2_with (first | (go_at_call 77; refine (within_any _ _ _ _).mono ?_; rintro e w5 ⟨rfl, rfl⟩))
    go_ret
    exact ⟨by first | rfl | trivial, by first | rfl | trivial⟩
  have c13 : wi r 63744 64975 = false := decide_eq_false h13
  have H13 := Hid.mk h13
  clear h13
  by_cases h14 : 65008 ≤ r ∧ r ≤ 65533
  · have e : nst r = true := in_of (L := rStart) (65008, 65533) (by decide) h14
    rw [e]
    clear e
    have c14 : wi r 65008 65533 = true := decide_eq_true h14
    clear h14
    go_enter Tryd.func69, Tryd.ntmps69
    go_wp2_with (first | (go_at_call 77; refine (within_any _ _ _ _).mono ?_; rintro e w5 ⟨rfl, rfl⟩))
    go_ret
    exact ⟨by first | rfl | trivial, by first | rfl | trivial⟩
  have c14 : wi r 65008 65533 = false := decide_eq_false h14
  have H14 := Hid.mk h14
  clear h14
  by_cases h15 : 65536 ≤ r ∧ r ≤ 983039
  · have e : nst r = true := in_of (L := rStart) (65536, 983039) (by decide) h15
    rw [e]
    clear e
    have c15 : wi r 65536 983039 = true := decide_eq_true h15
    clear h15
    go_enter Tryd.func69, Tryd.ntmps69
    go_wp2_with (first | (go_at_call 77; refine (within_any _ _ _ _).mono ?_; rintro e w5 ⟨rfl, rfl⟩))
    go_ret
    exact ⟨by first | rfl | trivial, by first | rfl | trivial⟩
  have c15 : wi r 65536 983039 = false := decide_eq_false h15
  have H15 := Hid.mk h15
  clear h15
  have e : nst r = false := by
    simp only [nst, inR, rStart, List.any_cons, List.any_nil, Bool.or_eq_false_iff, decide_eq_false_iff_not]
    exact ⟨H0.out, H1.out, not_one H2.out, H3.out, H4.out, H5.out, H6.out, H7.out, not_two H8.out H9.out rfl, H10.out, H11.out, H12.out, H13.out, H14.out, H15.out, trivial⟩
  rw [e]
  clear e
  go_enter Tryd.func69, Tryd.ntmps69
  go_wp2_with (first | (go_at_call 77; refine (within_any _ _ _ _).mono ?_; rintro e w5 ⟨rfl, rfl⟩))
  go_ret
  exact ⟨by first | rfl | trivial, by first | rfl | trivial⟩
set_option maxHeartbeats 4000000 in
set_option maxRecDepth 100000 in
theorem refMore_yes (w : World) (r : Int) (hs : nst r = true) :
    Calls Tryd.prog 68 #[.int .i32 r] w fun e w' => e = .returned (.bool true) ∧ w' = w := by
  have c := refStart_any w r
  rw [hs] at c
  clear hs
  go_enter Tryd.func68, Tryd.ntmps68
  go_wp2_with (go_at_call 69; refine c.mono ?_; rintro e w5 ⟨rfl, rfl⟩)
  go_ret
  exact ⟨rfl, rfl⟩
set_option maxHeartbeats 4000000 in
set_option maxRecDepth 100000 in
theorem refMore_no (w : World) (r : Int) (hs : nst r = false) :
    Calls Tryd.prog 68 #[.int .i32 r] w fun e w' => e = .returned (.bool (inR rMore r)) ∧ w' = w := by
  have c : Hid (Calls Tryd.prog 69 #[.int .i32 r] w fun e w' => e = .returned (.bool false) ∧ w' = w) := by
    have c := refStart_any w r
    rw [hs] at c
    exact c
  clear hs
  by_cases h0 : r = 45
  · have e : inR rMore r = true := in_of (L := rMore) (45, 46) (by decide) ⟨by rw [h0]; decide, by rw [h0]; decide⟩
    rw [e]
    clear e
    have c0 : (r == 45) = true := beq_iff_eq.2 h0
    clear h0
    go_enter Tryd.func68, Tryd.ntmps68
    go_wp2_with (first | (go_at_call 69; refine c.out.mono ?_; rintro e w5 ⟨rfl, rfl⟩) | (go_at_call 77; refine (within_any _ _ _ _).mono ?_; rintro e w5 ⟨rfl, rfl⟩))
    go_ret
    exact ⟨by first | rfl | trivial, by first | rfl | trivial⟩
  have c0 : (r == 45) = false := by rw [beq_eq_false_iff_ne]; exact h0
  have H0 := Hid.mk h0
  clear h0
  by_cases h1 : r = 46
  · have e : inR rMore r = true := in_of (L := rMore) (45, 46) (by decide) ⟨by rw [h1]; decide, by rw [h1]; decide⟩
    rw [e]
    clear e
    have c1 : (r == 46) = true := beq_iff_eq.2 h1
    clear h1
    go_enter Tryd.func68, Tryd.ntmps68
    go_wp2_with (first | (go_at_call 69; refine c.out.mono ?_; rintro e w5 ⟨rfl, rfl⟩) | (go_at_call 77; refine (within_any _ _ _ _).mono ?_; rintro e w5 ⟨rfl, rfl⟩))
    go_ret
    exact ⟨by first | rfl | trivial, by first | rfl | trivial⟩
  have c1 : (r == 46) = false := by rw [beq_eq_false_iff_ne]; exact h1
  have H1 := Hid.mk h1
  clear h1
  by_cases h2 : 48 ≤ r ∧ r ≤ 57
  · have e : inR rMore r = true := in_of (L := rMore) (48, 57) (by decide) h2
    rw [e]
    clear e
    have c2 : wi r 48 57 = true := decide_eq_true h2
    clear h2
    go_enter Tryd.func68, Tryd.ntmps68
    go_wp2_with (first | (go_at_call 69; refine c.out.mono ?_; rintro e w5 ⟨rfl, rfl⟩) | (go_at_call 77; refine (within_any _ _ _ _).mono ?_; rintro e w5 ⟨rfl, rfl⟩))
    go_ret
    exact ⟨by first | rfl | trivial, by first | rfl | trivial⟩
  have c2 : wi r 48 57 = false := decide_eq_false h2
  have H2 := Hid.mk h2
  clear h2
  by_cases h3 : r = 183
  · have e : inR rMore r = true := in_of (L := rMore) (183, 183) (by decide) ⟨by rw [h3]; decide, by rw [h3]; decide⟩
    rw [e]
    clear e
    have c3 : (r == 183) = true := beq_iff_eq.2 h3
    clear h3
    go_enter Tryd.func68, Tryd.ntmps68
    go_wp2_with (first | (go_at_call 69; refine c.out.mono ?_; rintro e w5 ⟨rfl, rfl⟩) | (go_at_call 77; refine (within_any _ _ _ _).mono ?_; rintro e w5 ⟨rfl, rfl⟩))
    go_ret
    exact ⟨by first | rfl | trivial, by first | rfl | trivial⟩
  have c3 : (r == 183) = false := by rw [beq_eq_false_iff_ne]; exact h3
  have H3 := Hid.mk h3
  clear h3
  by_cases h4 : 768 ≤ r ∧ r ≤ 879
  · have e : inR rMore r = true := in_of (L := rMore) (768, 879) (by decide) h4
    rw [e]
    clear e
    have c4 : wi r 768 879 = true := decide_eq_true h4
    clear h4
    go_enter Tryd.func68, Tryd.ntmps68
    go_wp2_with (first | (go_at_call 69; refine c.out.mono ?_; rintro e w5 ⟨rfl, rfl⟩) | (go_at_call 77; refine (within_any _ _ _ _).mono ?_; rintro e w5 ⟨rfl, rfl⟩))
    go_ret
    exact ⟨by first | rfl | trivial, by first | rfl | trivial⟩
  have c4 : wi r 768 879 = false := decide_eq_false h4
  have H4 := Hid.mk h4
  clear h4
  by_cases h5 : r = 8255
  · have e : inR rMore r = true := in_of (L := rMore) (8255, 8256) (by decide) ⟨by rw [h5]; decide, by rw [h5]; decide⟩
    rw [e]
    clear e
    have c5 : (r == 8255) = true := beq_iff_eq.2 h5
    clear h5
    go_enter Tryd.func68, Tryd.ntmps68
    go_wp2_with (first | (go_at_call 69; refine c.out.mono ?_; rintro e w5 ⟨rfl, rfl⟩) | (go_at_call 77; refine (within_any _ _ _ _).mono ?_; rintro e w5 ⟨rfl, rfl⟩))
    go_ret
    exact ⟨by first | rfl | trivial, by first | rfl | trivial⟩
  have c5 : (r == 8255) = false := by rw [beq_eq_false_iff_ne]; exact h5
  have H5 := Hid.mk h5
  clear h5
  by_cases h6 : r = 8256
  · have e : inR rMore r = true := in_of (L := rMore) (8255, 8256) (by decide) ⟨by rw [h6]; decide, by rw [h6]; decide⟩
    rw [e]
    clear e
    have c6 : (r == 8256) = true := beq_iff_eq.2 h6
    clear h6
    go_enter Tryd.func68, Tryd.ntmps68
    go_wp2_with (first | (go_at_call 69; refine c.out.mono ?_; rintro e w5 ⟨rfl, rfl⟩) | (go_at_call 77; refine (within_any _ _ _ _).mono ?_; rintro e w5 ⟨rfl, rfl⟩))
    go_ret
    exact ⟨by first | rfl | trivial, by first | rfl | trivial⟩
  have c6 : (r == 8256) = false := by rw [beq_eq_false_iff_ne]; exact h6
  have H6 := Hid.mk h6
  clear h6
  have e : inR rMore r = false := by
    simp only [inR, rMore, List.any_cons, List.any_nil, Bool.or_eq_false_iff, decide_eq_false_iff_not]
    exact ⟨not_two H0.out H1.out rfl, H2.out, not_one H3.out, H4.out, not_two H5.out H6.out rfl, trivial⟩
  rw [e]
  clear e
  go_enter Tryd.func68, Tryd.ntmps68
  go_wp2_with (first | (go_at_call 69; refine c.out.mono ?_; rintro e w5 ⟨rfl, rfl⟩) | (go_at_call 77; refine (within_any _ _ _ _).mono ?_; rintro e w5 ⟨rfl, rfl⟩))
  go_ret
  exact ⟨by first | rfl | trivial, by first | rfl | trivial⟩
theorem refMore_any (w : World) (r : Int) :
    Calls Tryd.prog 68 #[.int .i32 r] w fun e w' => e = .returned (.bool (nch r)) ∧ w' = w := by
  unfold nch
  cases hs : nst r with
  | true => exact refMore_yes w r hs
  | false => rw [Bool.false_or]; exact refMore_no w r hs
end Go.Proofs.YtjdcfaaoicnajaaDoor
