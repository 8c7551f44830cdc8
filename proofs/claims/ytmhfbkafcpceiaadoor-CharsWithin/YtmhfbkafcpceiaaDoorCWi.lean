/-
  CharsWithin.
-/
import Derived.Test.YtmhfbkafcpceiaaDoorCAwake
namespace Go.Proofs.YtmhfbkafcpceiaaDoor
open Go.RowKit Go.Maps
set_option linter.unusedVariables false

theorem bl_app (a b : ByteArray) : bl (a ++ b) = bl a ++ bl b := by
  unfold bl
  rw [ByteArray.data_append, Array.toList_append]
theorem encL_bl (r : Int) : bl (Utf8.encode r) = encL r := rfl
theorem enc_size (r : Int) : (Utf8.encode r).size ≤ 4 := by
  have := encL_len r
  rw [← encL_bl, bl_length] at this
  exact this
theorem nst_bad {r : Int} (h : txt r = false) : nst r = false ∧ nch r = false := by
  constructor
  · cases hs : nst r with
    | false => rfl
    | true => rw [txt_of_nst hs] at h; cases h
  · cases hs : nch r with
    | false => rfl
    | true => rw [txt_of_nch hs] at h; cases h
theorem txt_bad {r : Int} (h : ¬ good r) : txt r = false := by
  cases hs : txt r with
  | false => rfl
  | true => exact absurd (txt_good hs) h

set_option maxHeartbeats 4000000 in
set_option maxRecDepth 100000 in
theorem within_r1 (w : World) (HL : Hid (LaidC w)) (r q : Int) (e1 : decide (r < 0) = true) (s1 : nst r = false) (c1 : nch r = false) (t1 : txt r = false) : Calls Tryd.prog 6 #[.int .i32 r, .int .i32 q] w fun e w' => e = .returned (.bool true) ∧ Fr [] w w' := by
  have g := Fr.refl [] w
  go_enter Tryd.func6, Tryd.ntmps6
  go_wp2_with (first
    | (go_at_call 14; refine (awake_any _ (HL.out.kept g)).mono ?_; rintro e w5 ⟨rfl, f5⟩; replace g := g.trans f5; clear f5)
    | (go_at_call 8; refine (char_any _ (HL.out.kept g).spans _).mono ?_; rintro e w5 ⟨rfl, f5⟩; replace g := g.trans f5; clear f5)
    | (go_at_call 10; refine (nameStart_any _ (HL.out.kept g).spans _).mono ?_; rintro e w5 ⟨rfl, f5⟩; replace g := g.trans f5; clear f5)
    | (go_at_call 12; refine (nameChar_any _ (HL.out.kept g).spans _).mono ?_; rintro e w5 ⟨rfl, f5⟩; replace g := g.trans f5; clear f5)
    | (go_at_call 15; refine (name_any _ (HL.out.kept g) _).mono ?_; rintro e w5 ⟨rfl, f5⟩; replace g := g.trans f5; clear f5)
    | (go_at_call 17; refine (texts_any _ (HL.out.kept g) _ (by omega)).mono ?_; rintro e w5 ⟨rfl, f5⟩; replace g := g.trans f5; clear f5))
  go_ret
  exact ⟨rfl, g⟩
set_option maxHeartbeats 4000000 in
set_option maxRecDepth 100000 in
theorem within_r2 (w : World) (HL : Hid (LaidC w)) (r q : Int) (e1 : decide (r < 0) = false) (e2 : decide (1114111 < r) = true) (s1 : nst r = false) (c1 : nch r = false) (t1 : txt r = false) : Calls Tryd.prog 6 #[.int .i32 r, .int .i32 q] w fun e w' => e = .returned (.bool true) ∧ Fr [] w w' := by
  have g := Fr.refl [] w
  go_enter Tryd.func6, Tryd.ntmps6
  go_wp2_with (first
    | (go_at_call 14; refine (awake_any _ (HL.out.kept g)).mono ?_; rintro e w5 ⟨rfl, f5⟩; replace g := g.trans f5; clear f5)
    | (go_at_call 8; refine (char_any _ (HL.out.kept g).spans _).mono ?_; rintro e w5 ⟨rfl, f5⟩; replace g := g.trans f5; clear f5)
    | (go_at_call 10; refine (nameStart_any _ (HL.out.kept g).spans _).mono ?_; rintro e w5 ⟨rfl, f5⟩; replace g := g.trans f5; clear f5)
    | (go_at_call 12; refine (nameChar_any _ (HL.out.kept g).spans _).mono ?_; rintro e w5 ⟨rfl, f5⟩; replace g := g.trans f5; clear f5)
    | (go_at_call 15; refine (name_any _ (HL.out.kept g) _).mono ?_; rintro e w5 ⟨rfl, f5⟩; replace g := g.trans f5; clear f5)
    | (go_at_call 17; refine (texts_any _ (HL.out.kept g) _ (by omega)).mono ?_; rintro e w5 ⟨rfl, f5⟩; replace g := g.trans f5; clear f5))
  go_ret
  exact ⟨rfl, g⟩
set_option maxHeartbeats 4000000 in
set_option maxRecDepth 100000 in
theorem within_r3 (w : World) (HL : Hid (LaidC w)) (r q : Int) (e1 : decide (r < 0) = false) (e2 : decide (1114111 < r) = false) (e3 : decide (55296 ≤ r) = true) (e4 : decide (r ≤ 57343) = true) (s1 : nst r = false) (c1 : nch r = false) (t1 : txt r = false) : Calls Tryd.prog 6 #[.int .i32 r, .int .i32 q] w fun e w' => e = .returned (.bool true) ∧ Fr [] w w' := by
  have g := Fr.refl [] w
  go_enter Tryd.func6, Tryd.ntmps6
  go_wp2_with (first
    | (go_at_call 14; refine (awake_any _ (HL.out.kept g)).mono ?_; rintro e w5 ⟨rfl, f5⟩; replace g := g.trans f5; clear f5)
    | (go_at_call 8; refine (char_any _ (HL.out.kept g).spans _).mono ?_; rintro e w5 ⟨rfl, f5⟩; replace g := g.trans f5; clear f5)
    | (go_at_call 10; refine (nameStart_any _ (HL.out.kept g).spans _).mono ?_; rintro e w5 ⟨rfl, f5⟩; replace g := g.trans f5; clear f5)
    | (go_at_call 12; refine (nameChar_any _ (HL.out.kept g).spans _).mono ?_; rintro e w5 ⟨rfl, f5⟩; replace g := g.trans f5; clear f5)
    | (go_at_call 15; refine (name_any _ (HL.out.kept g) _).mono ?_; rintro e w5 ⟨rfl, f5⟩; replace g := g.trans f5; clear f5)
    | (go_at_call 17; refine (texts_any _ (HL.out.kept g) _ (by omega)).mono ?_; rintro e w5 ⟨rfl, f5⟩; replace g := g.trans f5; clear f5))
  go_ret
  exact ⟨rfl, g⟩
set_option maxHeartbeats 4000000 in
set_option maxRecDepth 100000 in
theorem within_q000 (w : World) (HL : Hid (LaidC w)) (r q : Int) (e1 : decide (r < 0) = false) (e2 : decide (1114111 < r) = false) (e3 : decide (55296 ≤ r) = false) (d1 : decide (q < 0) = true) (s1 : nst r = true) (c1 : nch r = true) (t1 : txt r = true) (t2 : txt q = false) : Calls Tryd.prog 6 #[.int .i32 r, .int .i32 q] w fun e w' => e = .returned (.bool true) ∧ Fr [] w w' := by
  have g := Fr.refl [] w
  go_enter Tryd.func6, Tryd.ntmps6
  go_wp2_with (first
    | (go_at_call 14; refine (awake_any _ (HL.out.kept g)).mono ?_; rintro e w5 ⟨rfl, f5⟩; replace g := g.trans f5; clear f5)
    | (go_at_call 8; refine (char_any _ (HL.out.kept g).spans _).mono ?_; rintro e w5 ⟨rfl, f5⟩; replace g := g.trans f5; clear f5)
    | (go_at_call 10; refine (nameStart_any _ (HL.out.kept g).spans _).mono ?_; rintro e w5 ⟨rfl, f5⟩; replace g := g.trans f5; clear f5)
    | (go_at_call 12; refine (nameChar_any _ (HL.out.kept g).spans _).mono ?_; rintro e w5 ⟨rfl, f5⟩; replace g := g.trans f5; clear f5)
    | (go_at_call 15; refine (name_any _ (HL.out.kept g) _).mono ?_; rintro e w5 ⟨rfl, f5⟩; replace g := g.trans f5; clear f5)
    | (go_at_call 17; refine (texts_any _ (HL.out.kept g) _ (by omega)).mono ?_; rintro e w5 ⟨rfl, f5⟩; replace g := g.trans f5; clear f5))
  go_ret
  exact ⟨rfl, g⟩
set_option maxHeartbeats 4000000 in
set_option maxRecDepth 100000 in
theorem within_q001 (w : World) (HL : Hid (LaidC w)) (r q : Int) (e1 : decide (r < 0) = false) (e2 : decide (1114111 < r) = false) (e3 : decide (55296 ≤ r) = false) (d1 : decide (q < 0) = false) (d2 : decide (1114111 < q) = true) (s1 : nst r = true) (c1 : nch r = true) (t1 : txt r = true) (t2 : txt q = false) : Calls Tryd.prog 6 #[.int .i32 r, .int .i32 q] w fun e w' => e = .returned (.bool true) ∧ Fr [] w w' := by
  have g := Fr.refl [] w
  go_enter Tryd.func6, Tryd.ntmps6
  go_wp2_with (first
    | (go_at_call 14; refine (awake_any _ (HL.out.kept g)).mono ?_; rintro e w5 ⟨rfl, f5⟩; replace g := g.trans f5; clear f5)
    | (go_at_call 8; refine (char_any _ (HL.out.kept g).spans _).mono ?_; rintro e w5 ⟨rfl, f5⟩; replace g := g.trans f5; clear f5)
    | (go_at_call 10; refine (nameStart_any _ (HL.out.kept g).spans _).mono ?_; rintro e w5 ⟨rfl, f5⟩; replace g := g.trans f5; clear f5)
    | (go_at_call 12; refine (nameChar_any _ (HL.out.kept g).spans _).mono ?_; rintro e w5 ⟨rfl, f5⟩; replace g := g.trans f5; clear f5)
    | (go_at_call 15; refine (name_any _ (HL.out.kept g) _).mono ?_; rintro e w5 ⟨rfl, f5⟩; replace g := g.trans f5; clear f5)
    | (go_at_call 17; refine (texts_any _ (HL.out.kept g) _ (by omega)).mono ?_; rintro e w5 ⟨rfl, f5⟩; replace g := g.trans f5; clear f5))
  go_ret
  exact ⟨rfl, g⟩
set_option maxHeartbeats 4000000 in
set_option maxRecDepth 100000 in
theorem within_q002 (w : World) (HL : Hid (LaidC w)) (r q : Int) (e1 : decide (r < 0) = false) (e2 : decide (1114111 < r) = false) (e3 : decide (55296 ≤ r) = false) (d1 : decide (q < 0) = false) (d2 : decide (1114111 < q) = false) (d3 : decide (55296 ≤ q) = true) (d4 : decide (q ≤ 57343) = true) (s1 : nst r = true) (c1 : nch r = true) (t1 : txt r = true) (t2 : txt q = false) : Calls Tryd.prog 6 #[.int .i32 r, .int .i32 q] w fun e w' => e = .returned (.bool true) ∧ Fr [] w w' := by
  have g := Fr.refl [] w
  go_enter Tryd.func6, Tryd.ntmps6
  go_wp2_with (first
    | (go_at_call 14; refine (awake_any _ (HL.out.kept g)).mono ?_; rintro e w5 ⟨rfl, f5⟩; replace g := g.trans f5; clear f5)
    | (go_at_call 8; refine (char_any _ (HL.out.kept g).spans _).mono ?_; rintro e w5 ⟨rfl, f5⟩; replace g := g.trans f5; clear f5)
    | (go_at_call 10; refine (nameStart_any _ (HL.out.kept g).spans _).mono ?_; rintro e w5 ⟨rfl, f5⟩; replace g := g.trans f5; clear f5)
    | (go_at_call 12; refine (nameChar_any _ (HL.out.kept g).spans _).mono ?_; rintro e w5 ⟨rfl, f5⟩; replace g := g.trans f5; clear f5)
    | (go_at_call 15; refine (name_any _ (HL.out.kept g) _).mono ?_; rintro e w5 ⟨rfl, f5⟩; replace g := g.trans f5; clear f5)
    | (go_at_call 17; refine (texts_any _ (HL.out.kept g) _ (by omega)).mono ?_; rintro e w5 ⟨rfl, f5⟩; replace g := g.trans f5; clear f5))
  go_ret
  exact ⟨rfl, g⟩
set_option maxHeartbeats 4000000 in
set_option maxRecDepth 100000 in
theorem within_g0000 (w : World) (HL : Hid (LaidC w)) (r q : Int) (e1 : decide (r < 0) = false) (e2 : decide (1114111 < r) = false) (e3 : decide (55296 ≤ r) = false) (d1 : decide (q < 0) = false) (d2 : decide (1114111 < q) = false) (d3 : decide (55296 ≤ q) = false) (s1 : nst r = true) (c1 : nch r = true) (t1 : txt r = true) (c2 : nch q = true) (t2 : txt q = true) (n1 : nameB (bl (Utf8.encode r)) = true) (x1 : textsB (bl (Utf8.encode r)) = true) (n2 : nameB (bl (Utf8.encode r ++ Utf8.encode q)) = true) (x2 : textsB (bl (Utf8.encode r ++ Utf8.encode q)) = true) (zA : (Utf8.encode r).size + (Utf8.encode q).size ≤ 9223372036854775807) (z1 : Hid ((Utf8.encode r).size < 140737488355328)) (z2 : Hid ((Utf8.encode r ++ Utf8.encode q).size < 140737488355328)) : Calls Tryd.prog 6 #[.int .i32 r, .int .i32 q] w fun e w' => e = .returned (.bool true) ∧ Fr [] w w' := by
  have g := Fr.refl [] w
  go_enter Tryd.func6, Tryd.ntmps6
  go_wp2_with (first
    | (go_at_call 14; refine (awake_any _ (HL.out.kept g)).mono ?_; rintro e w5 ⟨rfl, f5⟩; replace g := g.trans f5; clear f5)
    | (go_at_call 8; refine (char_any _ (HL.out.kept g).spans _).mono ?_; rintro e w5 ⟨rfl, f5⟩; replace g := g.trans f5; clear f5)
    | (go_at_call 10; refine (nameStart_any _ (HL.out.kept g).spans _).mono ?_; rintro e w5 ⟨rfl, f5⟩; replace g := g.trans f5; clear f5)
    | (go_at_call 12; refine (nameChar_any _ (HL.out.kept g).spans _).mono ?_; rintro e w5 ⟨rfl, f5⟩; replace g := g.trans f5; clear f5)
    | (go_at_call 15; refine (name_any _ (HL.out.kept g) _).mono ?_; rintro e w5 ⟨rfl, f5⟩; replace g := g.trans f5; clear f5)
    | (go_at_call 17; refine (texts_any _ (HL.out.kept g) _ (by first | exact z1.out | exact z2.out)).mono ?_; rintro e w5 ⟨rfl, f5⟩; replace g := g.trans f5; clear f5))
  go_ret
  exact ⟨rfl, g⟩
set_option maxHeartbeats 4000000 in
set_option maxRecDepth 100000 in
theorem within_g0001 (w : World) (HL : Hid (LaidC w)) (r q : Int) (e1 : decide (r < 0) = false) (e2 : decide (1114111 < r) = false) (e3 : decide (55296 ≤ r) = false) (d1 : decide (q < 0) = false) (d2 : decide (1114111 < q) = false) (d3 : decide (55296 ≤ q) = false) (s1 : nst r = true) (c1 : nch r = true) (t1 : txt r = true) (c2 : nch q = false) (t2 : txt q = true) (n1 : nameB (bl (Utf8.encode r)) = true) (x1 : textsB (bl (Utf8.encode r)) = true) (n2 : nameB (bl (Utf8.encode r ++ Utf8.encode q)) = false) (x2 : textsB (bl (Utf8.encode r ++ Utf8.encode q)) = true) (zA : (Utf8.encode r).size + (Utf8.encode q).size ≤ 9223372036854775807) (z1 : Hid ((Utf8.encode r).size < 140737488355328)) (z2 : Hid ((Utf8.encode r ++ Utf8.encode q).size < 140737488355328)) : Calls Tryd.prog 6 #[.int .i32 r, .int .i32 q] w fun e w' => e = .returned (.bool true) ∧ Fr [] w w' := by
  have g := Fr.refl [] w
  go_enter Tryd.func6, Tryd.ntmps6
  go_wp2_with (first
    | (go_at_call 14; refine (awake_any _ (HL.out.kept g)).mono ?_; rintro e w5 ⟨rfl, f5⟩; replace g := g.trans f5; clear f5)
    | (go_at_call 8; refine (char_any _ (HL.out.kept g).spans _).mono ?_; rintro e w5 ⟨rfl, f5⟩; replace g := g.trans f5; clear f5)
    | (go_at_call 10; refine (nameStart_any _ (HL.out.kept g).spans _).mono ?_; rintro e w5 ⟨rfl, f5⟩; replace g := g.trans f5; clear f5)
    | (go_at_call 12; refine (nameChar_any _ (HL.out.kept g).spans _).mono ?_; rintro e w5 ⟨rfl, f5⟩; replace g := g.trans f5; clear f5)
    | (go_at_call 15; refine (name_any _ (HL.out.kept g) _).mono ?_; rintro e w5 ⟨rfl, f5⟩; replace g := g.trans f5; clear f5)
    | (go_at_call 17; refine (texts_any _ (HL.out.kept g) _ (by first | exact z1.out | exact z2.out)).mono ?_; rintro e w5 ⟨rfl, f5⟩; replace g := g.trans f5; clear f5))
  go_ret
  exact ⟨rfl, g⟩
set_option maxHeartbeats 4000000 in
set_option maxRecDepth 100000 in
theorem within_g0002 (w : World) (HL : Hid (LaidC w)) (r q : Int) (e1 : decide (r < 0) = false) (e2 : decide (1114111 < r) = false) (e3 : decide (55296 ≤ r) = false) (d1 : decide (q < 0) = false) (d2 : decide (1114111 < q) = false) (d3 : decide (55296 ≤ q) = false) (s1 : nst r = true) (c1 : nch r = true) (t1 : txt r = true) (c2 : nch q = false) (t2 : txt q = false) (n1 : nameB (bl (Utf8.encode r)) = true) (x1 : textsB (bl (Utf8.encode r)) = true) (n2 : nameB (bl (Utf8.encode r ++ Utf8.encode q)) = false) (x2 : textsB (bl (Utf8.encode r ++ Utf8.encode q)) = false) (zA : (Utf8.encode r).size + (Utf8.encode q).size ≤ 9223372036854775807) (z1 : Hid ((Utf8.encode r).size < 140737488355328)) (z2 : Hid ((Utf8.encode r ++ Utf8.encode q).size < 140737488355328)) : Calls Tryd.prog 6 #[.int .i32 r, .int .i32 q] w fun e w' => e = .returned (.bool true) ∧ Fr [] w w' := by
  have g := Fr.refl [] w
  go_enter Tryd.func6, Tryd.ntmps6
  go_wp2_with (first
    | (go_at_call 14; refine (awake_any _ (HL.out.kept g)).mono ?_; rintro e w5 ⟨rfl, f5⟩; replace g := g.trans f5; clear f5)
    | (go_at_call 8; refine (char_any _ (HL.out.kept g).spans _).mono ?_; rintro e w5 ⟨rfl, f5⟩; replace g := g.trans f5; clear f5)
    | (go_at_call 10; refine (nameStart_any _ (HL.out.kept g).spans _).mono ?_; rintro e w5 ⟨rfl, f5⟩; replace g := g.trans f5; clear f5)
    | (go_at_call 12; refine (nameChar_any _ (HL.out.kept g).spans _).mono ?_; rintro e w5 ⟨rfl, f5⟩; replace g := g.trans f5; clear f5)
    | (go_at_call 15; refine (name_any _ (HL.out.kept g) _).mono ?_; rintro e w5 ⟨rfl, f5⟩; replace g := g.trans f5; clear f5)
    | (go_at_call 17; refine (texts_any _ (HL.out.kept g) _ (by first | exact z1.out | exact z2.out)).mono ?_; rintro e w5 ⟨rfl, f5⟩; replace g := g.trans f5; clear f5))
  go_ret
  exact ⟨rfl, g⟩
set_option maxHeartbeats 4000000 in
set_option maxRecDepth 100000 in
theorem within_g0010 (w : World) (HL : Hid (LaidC w)) (r q : Int) (e1 : decide (r < 0) = false) (e2 : decide (1114111 < r) = false) (e3 : decide (55296 ≤ r) = false) (d1 : decide (q < 0) = false) (d2 : decide (1114111 < q) = false) (d3 : decide (55296 ≤ q) = true) (d4 : decide (q ≤ 57343) = false) (s1 : nst r = true) (c1 : nch r = true) (t1 : txt r = true) (c2 : nch q = true) (t2 : txt q = true) (n1 : nameB (bl (Utf8.encode r)) = true) (x1 : textsB (bl (Utf8.encode r)) = true) (n2 : nameB (bl (Utf8.encode r ++ Utf8.encode q)) = true) (x2 : textsB (bl (Utf8.encode r ++ Utf8.encode q)) = true) (zA : (Utf8.encode r).size + (Utf8.encode q).size ≤ 9223372036854775807) (z1 : Hid ((Utf8.encode r).size < 140737488355328)) (z2 : Hid ((Utf8.encode r ++ Utf8.encode q).size < 140737488355328)) : Calls Tryd.prog 6 #[.int .i32 r, .int .i32 q] w fun e w' => e = .returned (.bool true) ∧ Fr [] w w' := by
  have g := Fr.refl [] w
  go_enter Tryd.func6, Tryd.ntmps6
  go_wp2_with (first
    | (go_at_call 14; refine (awake_any _ (HL.out.kept g)).mono ?_; rintro e w5 ⟨rfl, f5⟩; replace g := g.trans f5; clear f5)
    | (go_at_call 8; refine (char_any _ (HL.out.kept g).spans _).mono ?_; rintro e w5 ⟨rfl, f5⟩; replace g := g.trans f5; clear f5)
    | (go_at_call 10; refine (nameStart_any _ (HL.out.kept g).spans _).mono ?_; rintro e w5 ⟨rfl, f5⟩; replace g := g.trans f5; clear f5)
    | (go_at_call 12; refine (nameChar_any _ (HL.out.kept g).spans _).mono ?_; rintro e w5 ⟨rfl, f5⟩; replace g := g.trans f5; clear f5)
    | (go_at_call 15; refine (name_any _ (HL.out.kept g) _).mono ?_; rintro e w5 ⟨rfl, f5⟩; replace g := g.trans f5; clear f5)
    | (go_at_call 17; refine (texts_any _ (HL.out.kept g) _ (by first | exact z1.out | exact z2.out)).mono ?_; rintro e w5 ⟨rfl, f5⟩; replace g := g.trans f5; clear f5))
  go_ret
  exact ⟨rfl, g⟩
set_option maxHeartbeats 4000000 in
set_option maxRecDepth 100000 in
theorem within_g0011 (w : World) (HL : Hid (LaidC w)) (r q : Int) (e1 : decide (r < 0) = false) (e2 : decide (1114111 < r) = false) (e3 : decide (55296 ≤ r) = false) (d1 : decide (q < 0) = false) (d2 : decide (1114111 < q) = false) (d3 : decide (55296 ≤ q) = true) (d4 : decide (q ≤ 57343) = false) (s1 : nst r = true) (c1 : nch r = true) (t1 : txt r = true) (c2 : nch q = false) (t2 : txt q = true) (n1 : nameB (bl (Utf8.encode r)) = true) (x1 : textsB (bl (Utf8.encode r)) = true) (n2 : nameB (bl (Utf8.encode r ++ Utf8.encode q)) = false) (x2 : textsB (bl (Utf8.encode r ++ Utf8.encode q)) = true) (zA : (Utf8.encode r).size + (Utf8.encode q).size ≤ 9223372036854775807) (z1 : Hid ((Utf8.encode r).size < 140737488355328)) (z2 : Hid ((Utf8.encode r ++ Utf8.encode q).size < 140737488355328)) : Calls Tryd.prog 6 #[.int .i32 r, .int .i32 q] w fun e w' => e = .returned (.bool true) ∧ Fr [] w w' := by
  have g := Fr.refl [] w
  go_enter Tryd.func6, Tryd.ntmps6
  go_wp2_with (first
    | (go_at_call 14; refine (awake_any _ (HL.out.kept g)).mono ?_; rintro e w5 ⟨rfl, f5⟩; replace g := g.trans f5; clear f5)
    | (go_at_call 8; refine (char_any _ (HL.out.kept g).spans _).mono ?_; rintro e w5 ⟨rfl, f5⟩; replace g := g.trans f5; clear f5)
    | (go_at_call 10; refine (nameStart_any _ (HL.out.kept g).spans _).mono ?_; rintro e w5 ⟨rfl, f5⟩; replace g := g.trans f5; clear f5)
    | (go_at_call 12; refine (nameChar_any _ (HL.out.kept g).spans _).mono ?_; rintro e w5 ⟨rfl, f5⟩; replace g := g.trans f5; clear f5)
    | (go_at_call 15; refine (name_any _ (HL.out.kept g) _).mono ?_; rintro e w5 ⟨rfl, f5⟩; replace g := g.trans f5; clear f5)
    | (go_at_call 17; refine (texts_any _ (HL.out.kept g) _ (by first | exact z1.out | exact z2.out)).mono ?_; rintro e w5 ⟨rfl, f5⟩; replace g := g.trans f5; clear f5))
  go_ret
  exact ⟨rfl, g⟩
set_option maxHeartbeats 4000000 in
set_option maxRecDepth 100000 in
theorem within_g0012 (w : World) (HL : Hid (LaidC w)) (r q : Int) (e1 : decide (r < 0) = false) (e2 : decide (1114111 < r) = false) (e3 : decide (55296 ≤ r) = false) (d1 : decide (q < 0) = false) (d2 : decide (1114111 < q) = false) (d3 : decide (55296 ≤ q) = true) (d4 : decide (q ≤ 57343) = false) (s1 : nst r = true) (c1 : nch r = true) (t1 : txt r = true) (c2 : nch q = false) (t2 : txt q = false) (n1 : nameB (bl (Utf8.encode r)) = true) (x1 : textsB (bl (Utf8.encode r)) = true) (n2 : nameB (bl (Utf8.encode r ++ Utf8.encode q)) = false) (x2 : textsB (bl (Utf8.encode r ++ Utf8.encode q)) = false) (zA : (Utf8.encode r).size + (Utf8.encode q).size ≤ 9223372036854775807) (z1 : Hid ((Utf8.encode r).size < 140737488355328)) (z2 : Hid ((Utf8.encode r ++ Utf8.encode q).size < 140737488355328)) : Calls Tryd.prog 6 #[.int .i32 r, .int .i32 q] w fun e w' => e = .returned (.bool true) ∧ Fr [] w w' := by
  have g := Fr.refl [] w
  go_enter Tryd.func6, Tryd.ntmps6
  go_wp2_with (first
    | (go_at_call 14; refine (awake_any _ (HL.out.kept g)).mono ?_; rintro e w5 ⟨rfl, f5⟩; replace g := g.trans f5; clear f5)
    | (go_at_call 8; refine (char_any _ (HL.out.kept g).spans _).mono ?_; rintro e w5 ⟨rfl, f5⟩; replace g := g.trans f5; clear f5)
    | (go_at_call 10; refine (nameStart_any _ (HL.out.kept g).spans _).mono ?_; rintro e w5 ⟨rfl, f5⟩; replace g := g.trans f5; clear f5)
    | (go_at_call 12; refine (nameChar_any _ (HL.out.kept g).spans _).mono ?_; rintro e w5 ⟨rfl, f5⟩; replace g := g.trans f5; clear f5)
    | (go_at_call 15; refine (name_any _ (HL.out.kept g) _).mono ?_; rintro e w5 ⟨rfl, f5⟩; replace g := g.trans f5; clear f5)
    | (go_at_call 17; refine (texts_any _ (HL.out.kept g) _ (by first | exact z1.out | exact z2.out)).mono ?_; rintro e w5 ⟨rfl, f5⟩; replace g := g.trans f5; clear f5))
  go_ret
  exact ⟨rfl, g⟩
set_option maxHeartbeats 4000000 in
set_option maxRecDepth 100000 in
theorem within_q010 (w : World) (HL : Hid (LaidC w)) (r q : Int) (e1 : decide (r < 0) = false) (e2 : decide (1114111 < r) = false) (e3 : decide (55296 ≤ r) = false) (d1 : decide (q < 0) = true) (s1 : nst r = false) (c1 : nch r = true) (t1 : txt r = true) (t2 : txt q = false) : Calls Tryd.prog 6 #[.int .i32 r, .int .i32 q] w fun e w' => e = .returned (.bool true) ∧ Fr [] w w' := by
  have g := Fr.refl [] w
  go_enter Tryd.func6, Tryd.ntmps6
  go_wp2_with (first
    | (go_at_call 14; refine (awake_any _ (HL.out.kept g)).mono ?_; rintro e w5 ⟨rfl, f5⟩; replace g := g.trans f5; clear f5)
    | (go_at_call 8; refine (char_any _ (HL.out.kept g).spans _).mono ?_; rintro e w5 ⟨rfl, f5⟩; replace g := g.trans f5; clear f5)
    | (go_at_call 10; refine (nameStart_any _ (HL.out.kept g).spans _).mono ?_; rintro e w5 ⟨rfl, f5⟩; replace g := g.trans f5; clear f5)
    | (go_at_call 12; refine (nameChar_any _ (HL.out.kept g).spans _).mono ?_; rintro e w5 ⟨rfl, f5⟩; replace g := g.trans f5; clear f5)
    | (go_at_call 15; refine (name_any _ (HL.out.kept g) _).mono ?_; rintro e w5 ⟨rfl, f5⟩; replace g := g.trans f5; clear f5)
    | (go_at_call 17; refine (texts_any _ (HL.out.kept g) _ (by omega)).mono ?_; rintro e w5 ⟨rfl, f5⟩; replace g := g.trans f5; clear f5))
  go_ret
  exact ⟨rfl, g⟩
set_option maxHeartbeats 4000000 in
set_option maxRecDepth 100000 in
theorem within_q011 (w : World) (HL : Hid (LaidC w)) (r q : Int) (e1 : decide (r < 0) = false) (e2 : decide (1114111 < r) = false) (e3 : decide (55296 ≤ r) = false) (d1 : decide (q < 0) = false) (d2 : decide (1114111 < q) = true) (s1 : nst r = false) (c1 : nch r = true) (t1 : txt r = true) (t2 : txt q = false) : Calls Tryd.prog 6 #[.int .i32 r, .int .i32 q] w fun e w' => e = .returned (.bool true) ∧ Fr [] w w' := by
  have g := Fr.refl [] w
  go_enter Tryd.func6, Tryd.ntmps6
  go_wp2_with (first
    | (go_at_call 14; refine (awake_any _ (HL.out.kept g)).mono ?_; rintro e w5 ⟨rfl, f5⟩; replace g := g.trans f5; clear f5)
    | (go_at_call 8; refine (char_any _ (HL.out.kept g).spans _).mono ?_; rintro e w5 ⟨rfl, f5⟩; replace g := g.trans f5; clear f5)
    | (go_at_call 10; refine (nameStart_any _ (HL.out.kept g).spans _).mono ?_; rintro e w5 ⟨rfl, f5⟩; replace g := g.trans f5; clear f5)
    | (go_at_call 12; refine (nameChar_any _ (HL.out.kept g).spans _).mono ?_; rintro e w5 ⟨rfl, f5⟩; replace g := g.trans f5; clear f5)
    | (go_at_call 15; refine (name_any _ (HL.out.kept g) _).mono ?_; rintro e w5 ⟨rfl, f5⟩; replace g := g.trans f5; clear f5)
    | (go_at_call 17; refine (texts_any _ (HL.out.kept g) _ (by omega)).mono ?_; rintro e w5 ⟨rfl, f5⟩; replace g := g.trans f5; clear f5))
  go_ret
  exact ⟨rfl, g⟩
set_option maxHeartbeats 4000000 in
set_option maxRecDepth 100000 in
theorem within_q012 (w : World) (HL : Hid (LaidC w)) (r q : Int) (e1 : decide (r < 0) = false) (e2 : decide (1114111 < r) = false) (e3 : decide (55296 ≤ r) = false) (d1 : decide (q < 0) = false) (d2 : decide (1114111 < q) = false) (d3 : decide (55296 ≤ q) = true) (d4 : decide (q ≤ 57343) = true) (s1 : nst r = false) (c1 : nch r = true) (t1 : txt r = true) (t2 : txt q = false) : Calls Tryd.prog 6 #[.int .i32 r, .int .i32 q] w fun e w' => e = .returned (.bool true) ∧ Fr [] w w' := by
  have g := Fr.refl [] w
  go_enter Tryd.func6, Tryd.ntmps6
  go_wp2_with (first
    | (go_at_call 14; refine (awake_any _ (HL.out.kept g)).mono ?_; rintro e w5 ⟨rfl, f5⟩; replace g := g.trans f5; clear f5)
    | (go_at_call 8; refine (char_any _ (HL.out.kept g).spans _).mono ?_; rintro e w5 ⟨rfl, f5⟩; replace g := g.trans f5; clear f5)
    | (go_at_call 10; refine (nameStart_any _ (HL.out.kept g).spans _).mono ?_; rintro e w5 ⟨rfl, f5⟩; replace g := g.trans f5; clear f5)
    | (go_at_call 12; refine (nameChar_any _ (HL.out.kept g).spans _).mono ?_; rintro e w5 ⟨rfl, f5⟩; replace g := g.trans f5; clear f5)
    | (go_at_call 15; refine (name_any _ (HL.out.kept g) _).mono ?_; rintro e w5 ⟨rfl, f5⟩; replace g := g.trans f5; clear f5)
    | (go_at_call 17; refine (texts_any _ (HL.out.kept g) _ (by omega)).mono ?_; rintro e w5 ⟨rfl, f5⟩; replace g := g.trans f5; clear f5))
  go_ret
  exact ⟨rfl, g⟩
set_option maxHeartbeats 4000000 in
set_option maxRecDepth 100000 in
theorem within_g0100 (w : World) (HL : Hid (LaidC w)) (r q : Int) (e1 : decide (r < 0) = false) (e2 : decide (1114111 < r) = false) (e3 : decide (55296 ≤ r) = false) (d1 : decide (q < 0) = false) (d2 : decide (1114111 < q) = false) (d3 : decide (55296 ≤ q) = false) (s1 : nst r = false) (c1 : nch r = true) (t1 : txt r = true) (c2 : nch q = true) (t2 : txt q = true) (n1 : nameB (bl (Utf8.encode r)) = false) (x1 : textsB (bl (Utf8.encode r)) = true) (n2 : nameB (bl (Utf8.encode r ++ Utf8.encode q)) = false) (x2 : textsB (bl (Utf8.encode r ++ Utf8.encode q)) = true) (zA : (Utf8.encode r).size + (Utf8.encode q).size ≤ 9223372036854775807) (z1 : Hid ((Utf8.encode r).size < 140737488355328)) (z2 : Hid ((Utf8.encode r ++ Utf8.encode q).size < 140737488355328)) : Calls Tryd.prog 6 #[.int .i32 r, .int .i32 q] w fun e w' => e = .returned (.bool true) ∧ Fr [] w w' := by
  have g := Fr.refl [] w
  go_enter Tryd.func6, Tryd.ntmps6
  go_wp2_with (first
    | (go_at_call 14; refine (awake_any _ (HL.out.kept g)).mono ?_; rintro e w5 ⟨rfl, f5⟩; replace g := g.trans f5; clear f5)
    | (go_at_call 8; refine (char_any _ (HL.out.kept g).spans _).mono ?_; rintro e w5 ⟨rfl, f5⟩; replace g := g.trans f5; clear f5)
    | (go_at_call 10; refine (nameStart_any _ (HL.out.kept g).spans _).mono ?_; rintro e w5 ⟨rfl, f5⟩; replace g := g.trans f5; clear f5)
    | (go_at_call 12; refine (nameChar_any _ (HL.out.kept g).spans _).mono ?_; rintro e w5 ⟨rfl, f5⟩; replace g := g.trans f5; clear f5)
    | (go_at_call 15; refine (name_any _ (HL.out.kept g) _).mono ?_; rintro e w5 ⟨rfl, f5⟩; replace g := g.trans f5; clear f5)
    | (go_at_call 17; refine (texts_any _ (HL.out.kept g) _ (by first | exact z1.out | exact z2.out)).mono ?_; rintro e w5 ⟨rfl, f5⟩; replace g := g.trans f5; clear f5))
  go_ret
  exact ⟨rfl, g⟩
set_option maxHeartbeats 4000000 in
set_option maxRecDepth 100000 in
theorem within_g0101 (w : World) (HL : Hid (LaidC w)) (r q : Int) (e1 : decide (r < 0) = false) (e2 : decide (1114111 < r) = false) (e3 : decide (55296 ≤ r) = false) (d1 : decide (q < 0) = false) (d2 : decide (1114111 < q) = false) (d3 : decide (55296 ≤ q) = false) (s1 : nst r = false) (c1 : nch r = true) (t1 : txt r = true) (c2 : nch q = false) (t2 : txt q = true) (n1 : nameB (bl (Utf8.encode r)) = false) (x1 : textsB (bl (Utf8.encode r)) = true) (n2 : nameB (bl (Utf8.encode r ++ Utf8.encode q)) = false) (x2 : textsB (bl (Utf8.encode r ++ Utf8.encode q)) = true) (zA : (Utf8.encode r).size + (Utf8.encode q).size ≤ 9223372036854775807) (z1 : Hid ((Utf8.encode r).size < 140737488355328)) (z2 : Hid ((Utf8.encode r ++ Utf8.encode q).size < 140737488355328)) : Calls Tryd.prog 6 #[.int .i32 r, .int .i32 q] w fun e w' => e = .returned (.bool true) ∧ Fr [] w w' := by
  have g := Fr.refl [] w
  go_enter Tryd.func6, Tryd.ntmps6
  go_wp2_with (first
    | (go_at_call 14; refine (awake_any _ (HL.out.kept g)).mono ?_; rintro e w5 ⟨rfl, f5⟩; replace g := g.trans f5; clear f5)
    | (go_at_call 8; refine (char_any _ (HL.out.kept g).spans _).mono ?_; rintro e w5 ⟨rfl, f5⟩; replace g := g.trans f5; clear f5)
    | (go_at_call 10; refine (nameStart_any _ (HL.out.kept g).spans _).mono ?_; rintro e w5 ⟨rfl, f5⟩; replace g := g.trans f5; clear f5)
    | (go_at_call 12; refine (nameChar_any _ (HL.out.kept g).spans _).mono ?_; rintro e w5 ⟨rfl, f5⟩; replace g := g.trans f5; clear f5)
    | (go_at_call 15; refine (name_any _ (HL.out.kept g) _).mono ?_; rintro e w5 ⟨rfl, f5⟩; replace g := g.trans f5; clear f5)
    | (go_at_call 17; refine (texts_any _ (HL.out.kept g) _ (by first | exact z1.out | exact z2.out)).mono ?_; rintro e w5 ⟨rfl, f5⟩; replace g := g.trans f5; clear f5))
  go_ret
  exact ⟨rfl, g⟩
set_option maxHeartbeats 4000000 in
set_option maxRecDepth 100000 in
theorem within_g0102 (w : World) (HL : Hid (LaidC w)) (r q : Int) (e1 : decide (r < 0) = false) (e2 : decide (1114111 < r) = false) (e3 : decide (55296 ≤ r) = false) (d1 : decide (q < 0) = false) (d2 : decide (1114111 < q) = false) (d3 : decide (55296 ≤ q) = false) (s1 : nst r = false) (c1 : nch r = true) (t1 : txt r = true) (c2 : nch q = false) (t2 : txt q = false) (n1 : nameB (bl (Utf8.encode r)) = false) (x1 : textsB (bl (Utf8.encode r)) = true) (n2 : nameB (bl (Utf8.encode r ++ Utf8.encode q)) = false) (x2 : textsB (bl (Utf8.encode r ++ Utf8.encode q)) = false) (zA : (Utf8.encode r).size + (Utf8.encode q).size ≤ 9223372036854775807) (z1 : Hid ((Utf8.encode r).size < 140737488355328)) (z2 : Hid ((Utf8.encode r ++ Utf8.encode q).size < 140737488355328)) : Calls Tryd.prog 6 #[.int .i32 r, .int .i32 q] w fun e w' => e = .returned (.bool true) ∧ Fr [] w w' := by
  have g := Fr.refl [] w
  go_enter Tryd.func6, Tryd.ntmps6
  go_wp2_with (first
    | (go_at_call 14; refine (awake_any _ (HL.out.kept g)).mono ?_; rintro e w5 ⟨rfl, f5⟩; replace g := g.trans f5; clear f5)
    | (go_at_call 8; refine (char_any _ (HL.out.kept g).spans _).mono ?_; rintro e w5 ⟨rfl, f5⟩; replace g := g.trans f5; clear f5)
    | (go_at_call 10; refine (nameStart_any _ (HL.out.kept g).spans _).mono ?_; rintro e w5 ⟨rfl, f5⟩; replace g := g.trans f5; clear f5)
    | (go_at_call 12; refine (nameChar_any _ (HL.out.kept g).spans _).mono ?_; rintro e w5 ⟨rfl, f5⟩; replace g := g.trans f5; clear f5)
    | (go_at_call 15; refine (name_any _ (HL.out.kept g) _).mono ?_; rintro e w5 ⟨rfl, f5⟩; replace g := g.trans f5; clear f5)
    | (go_at_call 17; refine (texts_any _ (HL.out.kept g) _ (by first | exact z1.out | exact z2.out)).mono ?_; rintro e w5 ⟨rfl, f5⟩; replace g := g.trans f5; clear f5))
  go_ret
  exact ⟨rfl, g⟩
set_option maxHeartbeats 4000000 in
set_option maxRecDepth 100000 in
theorem within_g0110 (w : World) (HL : Hid (LaidC w)) (r q : Int) (e1 : decide (r < 0) = false) (e2 : decide (1114111 < r) = false) (e3 : decide (55296 ≤ r) = false) (d1 : decide (q < 0) = false) (d2 : decide (1114111 < q) = false) (d3 : decide (55296 ≤ q) = true) (d4 : decide (q ≤ 57343) = false) (s1 : nst r = false) (c1 : nch r = true) (t1 : txt r = true) (c2 : nch q = true) (t2 : txt q = true) (n1 : nameB (bl (Utf8.encode r)) = false) (x1 : textsB (bl (Utf8.encode r)) = true) (n2 : nameB (bl (Utf8.encode r ++ Utf8.encode q)) = false) (x2 : textsB (bl (Utf8.encode r ++ Utf8.encode q)) = true) (zA : (Utf8.encode r).size + (Utf8.encode q).size ≤ 9223372036854775807) (z1 : Hid ((Utf8.encode r).size < 140737488355328)) (z2 : Hid ((Utf8.encode r ++ Utf8.encode q).size < 140737488355328)) : Calls Tryd.prog 6 #[.int .i32 r, .int .i32 q] w fun e w' => e = .returned (.bool true) ∧ Fr [] w w' := by
  have g := Fr.refl [] w
  go_enter Tryd.func6, Tryd.ntmps6
  go_wp2_with (first
    | (go_at_call 14; refine (awake_any _ (HL.out.kept g)).mono ?_; rintro e w5 ⟨rfl, f5⟩; replace g := g.trans f5; clear f5)
    | (go_at_call 8; refine (char_any _ (HL.out.kept g).spans _).mono ?_; rintro e w5 ⟨rfl, f5⟩; replace g := g.trans f5; clear f5)
    | (go_at_call 10; refine (nameStart_any _ (HL.out.kept g).spans _).mono ?_; rintro e w5 ⟨rfl, f5⟩; replace g := g.trans f5; clear f5)
    | (go_at_call 12; refine (nameChar_any _ (HL.out.kept g).spans _).mono ?_; rintro e w5 ⟨rfl, f5⟩; replace g := g.trans f5; clear f5)
    | (go_at_call 15; refine (name_any _ (HL.out.kept g) _).mono ?_; rintro e w5 ⟨rfl, f5⟩; replace g := g.trans f5; clear f5)
    | (go_at_call 17; refine (texts_any _ (HL.out.kept g) _ (by first | exact z1.out | exact z2.out)).mono ?_; rintro e w5 ⟨rfl, f5⟩; replace g := g.trans f5; clear f5))
  go_ret
  exact ⟨rfl, g⟩
set_option maxHeartbeats 4000000 in
set_option maxRecDepth 100000 in
theorem within_g0111 (w : World) (HL : Hid (LaidC w)) (r q : Int) (e1 : decide (r < 0) = false) (e2 : decide (1114111 < r) = false) (e3 : decide (55296 ≤ r) = false) (d1 : decide (q < 0) = false) (d2 : decide (1114111 < q) = false) (d3 : decide (55296 ≤ q) = true) (d4 : decide (q ≤ 57343) = false) (s1 : nst r = false) (c1 : nch r = true) (t1 : txt r = true) (c2 : nch q = false) (t2 : txt q = true) (n1 : nameB (bl (Utf8.encode r)) = false) (x1 : textsB (bl (Utf8.encode r)) = true) (n2 : nameB (bl (Utf8.encode r ++ Utf8.encode q)) = false) (x2 : textsB (bl (Utf8.encode r ++ Utf8.encode q)) = true) (zA : (Utf8.encode r).size + (Utf8.encode q).size ≤ 9223372036854775807) (z1 : Hid ((Utf8.encode r).size < 140737488355328)) (z2 : Hid ((Utf8.encode r ++ Utf8.encode q).size < 140737488355328)) : Calls Tryd.prog 6 #[.int .i32 r, .int .i32 q] w fun e w' => e = .returned (.bool true) ∧ Fr [] w w' := by
  have g := Fr.refl [] w
  go_enter Tryd.func6, Tryd.ntmps6
  go_wp2_with (first
    | (go_at_call 14; refine (awake_any _ (HL.out.kept g)).mono ?_; rintro e w5 ⟨rfl, f5⟩; replace g := g.trans f5; clear f5)
    | (go_at_call 8; refine (char_any _ (HL.out.kept g).spans _).mono ?_; rintro e w5 ⟨rfl, f5⟩; replace g := g.trans f5; clear f5)
    | (go_at_call 10; refine (nameStart_any _ (HL.out.kept g).spans _).mono ?_; rintro e w5 ⟨rfl, f5⟩; replace g := g.trans f5; clear f5)
    | (go_at_call 12; refine (nameChar_any _ (HL.out.kept g).spans _).mono ?_; rintro e w5 ⟨rfl, f5⟩; replace g := g.trans f5; clear f5)
    | (go_at_call 15; refine (name_any _ (HL.out.kept g) _).mono ?_; rintro e w5 ⟨rfl, f5⟩; replace g := g.trans f5; clear f5)
    | (go_at_call 17; refine (texts_any _ (HL.out.kept g) _ (by first | exact z1.out | exact z2.out)).mono ?_; rintro e w5 ⟨rfl, f5⟩; replace g := g.trans f5; clear f5))
  go_ret
  exact ⟨rfl, g⟩
set_option maxHeartbeats 4000000 in
set_option maxRecDepth 100000 in
theorem within_g0112 (w : World) (HL : Hid (LaidC w)) (r q : Int) (e1 : decide (r < 0) = false) (e2 : decide (1114111 < r) = false) (e3 : decide (55296 ≤ r) = false) (d1 : decide (q < 0) = false) (d2 : decide (1114111 < q) = false) (d3 : decide (55296 ≤ q) = true) (d4 : decide (q ≤ 57343) = false) (s1 : nst r = false) (c1 : nch r = true) (t1 : txt r = true) (c2 : nch q = false) (t2 : txt q = false) (n1 : nameB (bl (Utf8.encode r)) = false) (x1 : textsB (bl (Utf8.encode r)) = true) (n2 : nameB (bl (Utf8.encode r ++ Utf8.encode q)) = false) (x2 : textsB (bl (Utf8.encode r ++ Utf8.encode q)) = false) (zA : (Utf8.encode r).size + (Utf8.encode q).size ≤ 9223372036854775807) (z1 : Hid ((Utf8.encode r).size < 140737488355328)) (z2 : Hid ((Utf8.encode r ++ Utf8.encode q).size < 140737488355328)) : Calls Tryd.prog 6 #[.int .i32 r, .int .i32 q] w fun e w' => e = .returned (.bool true) ∧ Fr [] w w' := by
  have g := Fr.refl [] w
  go_enter Tryd.func6, Tryd.ntmps6
  go_wp2_with (first
    | (go_at_call 14; refine (awake_any _ (HL.out.kept g)).mono ?_; rintro e w5 ⟨rfl, f5⟩; replace g := g.trans f5; clear f5)
    | (go_at_call 8; refine (char_any _ (HL.out.kept g).spans _).mono ?_; rintro e w5 ⟨rfl, f5⟩; replace g := g.trans f5; clear f5)
    | (go_at_call 10; refine (nameStart_any _ (HL.out.kept g).spans _).mono ?_; rintro e w5 ⟨rfl, f5⟩; replace g := g.trans f5; clear f5)
    | (go_at_call 12; refine (nameChar_any _ (HL.out.kept g).spans _).mono ?_; rintro e w5 ⟨rfl, f5⟩; replace g := g.trans f5; clear f5)
    | (go_at_call 15; refine (name_any _ (HL.out.kept g) _).mono ?_; rintro e w5 ⟨rfl, f5⟩; replace g := g.trans f5; clear f5)
    | (go_at_call 17; refine (texts_any _ (HL.out.kept g) _ (by first | exact z1.out | exact z2.out)).mono ?_; rintro e w5 ⟨rfl, f5⟩; replace g := g.trans f5; clear f5))
  go_ret
  exact ⟨rfl, g⟩
set_option maxHeartbeats 4000000 in
set_option maxRecDepth 100000 in
theorem within_q020 (w : World) (HL : Hid (LaidC w)) (r q : Int) (e1 : decide (r < 0) = false) (e2 : decide (1114111 < r) = false) (e3 : decide (55296 ≤ r) = false) (d1 : decide (q < 0) = true) (s1 : nst r = false) (c1 : nch r = false) (t1 : txt r = true) (t2 : txt q = false) : Calls Tryd.prog 6 #[.int .i32 r, .int .i32 q] w fun e w' => e = .returned (.bool true) ∧ Fr [] w w' := by
  have g := Fr.refl [] w
  go_enter Tryd.func6, Tryd.ntmps6
  go_wp2_with (first
    | (go_at_call 14; refine (awake_any _ (HL.out.kept g)).mono ?_; rintro e w5 ⟨rfl, f5⟩; replace g := g.trans f5; clear f5)
    | (go_at_call 8; refine (char_any _ (HL.out.kept g).spans _).mono ?_; rintro e w5 ⟨rfl, f5⟩; replace g := g.trans f5; clear f5)
    | (go_at_call 10; refine (nameStart_any _ (HL.out.kept g).spans _).mono ?_; rintro e w5 ⟨rfl, f5⟩; replace g := g.trans f5; clear f5)
    | (go_at_call 12; refine (nameChar_any _ (HL.out.kept g).spans _).mono ?_; rintro e w5 ⟨rfl, f5⟩; replace g := g.trans f5; clear f5)
    | (go_at_call 15; refine (name_any _ (HL.out.kept g) _).mono ?_; rintro e w5 ⟨rfl, f5⟩; replace g := g.trans f5; clear f5)
    | (go_at_call 17; refine (texts_any _ (HL.out.kept g) _ (by omega)).mono ?_; rintro e w5 ⟨rfl, f5⟩; replace g := g.trans f5; clear f5))
  go_ret
  exact ⟨rfl, g⟩
set_option maxHeartbeats 4000000 in
set_option maxRecDepth 100000 in
theorem within_q021 (w : World) (HL : Hid (LaidC w)) (r q : Int) (e1 : decide (r < 0) = false) (e2 : decide (1114111 < r) = false) (e3 : decide (55296 ≤ r) = false) (d1 : decide (q < 0) = false) (d2 : decide (1114111 < q) = true) (s1 : nst r = false) (c1 : nch r = false) (t1 : txt r = true) (t2 : txt q = false) : Calls Tryd.prog 6 #[.int .i32 r, .int .i32 q] w fun e w' => e = .returned (.bool true) ∧ Fr [] w w' := by
  have g := Fr.refl [] w
  go_enter Tryd.func6, Tryd.ntmps6
  go_wp2_with (first
    | (go_at_call 14; refine (awake_any _ (HL.out.kept g)).mono ?_; rintro e w5 ⟨rfl, f5⟩; replace g := g.trans f5; clear f5)
    | (go_at_call 8; refine (char_any _ (HL.out.kept g).spans _).mono ?_; rintro e w5 ⟨rfl, f5⟩; replace g := g.trans f5; clear f5)
    | (go_at_call 10; refine (nameStart_any _ (HL.out.kept g).spans _).mono ?_; rintro e w5 ⟨rfl, f5⟩; replace g := g.trans f5; clear f5)
    | (go_at_call 12; refine (nameChar_any _ (HL.out.kept g).spans _).mono ?_; rintro e w5 ⟨rfl, f5⟩; replace g := g.trans f5; clear f5)
    | (go_at_call 15; refine (name_any _ (HL.out.kept g) _).mono ?_; rintro e w5 ⟨rfl, f5⟩; replace g := g.trans f5; clear f5)
    | (go_at_call 17; refine (texts_any _ (HL.out.kept g) _ (by omega)).mono ?_; rintro e w5 ⟨rfl, f5⟩; replace g := g.trans f5; clear f5))
  go_ret
  exact ⟨rfl, g⟩
set_option maxHeartbeats 4000000 in
set_option maxRecDepth 100000 in
theorem within_q022 (w : World) (HL : Hid (LaidC w)) (r q : Int) (e1 : decide (r < 0) = false) (e2 : decide (1114111 < r) = false) (e3 : decide (55296 ≤ r) = false) (d1 : decide (q < 0) = false) (d2 : decide (1114111 < q) = false) (d3 : decide (55296 ≤ q) = true) (d4 : decide (q ≤ 57343) = true) (s1 : nst r = false) (c1 : nch r = false) (t1 : txt r = true) (t2 : txt q = false) : Calls Tryd.prog 6 #[.int .i32 r, .int .i32 q] w fun e w' => e = .returned (.bool true) ∧ Fr [] w w' := by
  have g := Fr.refl [] w
  go_enter Tryd.func6, Tryd.ntmps6
  go_wp2_with (first
    | (go_at_call 14; refine (awake_any _ (HL.out.kept g)).mono ?_; rintro e w5 ⟨rfl, f5⟩; replace g := g.trans f5; clear f5)
    | (go_at_call 8; refine (char_any _ (HL.out.kept g).spans _).mono ?_; rintro e w5 ⟨rfl, f5⟩; replace g := g.trans f5; clear f5)
    | (go_at_call 10; refine (nameStart_any _ (HL.out.kept g).spans _).mono ?_; rintro e w5 ⟨rfl, f5⟩; replace g := g.trans f5; clear f5)
    | (go_at_call 12; refine (nameChar_any _ (HL.out.kept g).spans _).mono ?_; rintro e w5 ⟨rfl, f5⟩; replace g := g.trans f5; clear f5)
    | (go_at_call 15; refine (name_any _ (HL.out.kept g) _).mono ?_; rintro e w5 ⟨rfl, f5⟩; replace g := g.trans f5; clear f5)
    | (go_at_call 17; refine (texts_any _ (HL.out.kept g) _ (by omega)).mono ?_; rintro e w5 ⟨rfl, f5⟩; replace g := g.trans f5; clear f5))
  go_ret
  exact ⟨rfl, g⟩
set_option maxHeartbeats 4000000 in
set_option maxRecDepth 100000 in
theorem within_g0200 (w : World) (HL : Hid (LaidC w)) (r q : Int) (e1 : decide (r < 0) = false) (e2 : decide (1114111 < r) = false) (e3 : decide (55296 ≤ r) = false) (d1 : decide (q < 0) = false) (d2 : decide (1114111 < q) = false) (d3 : decide (55296 ≤ q) = false) (s1 : nst r = false) (c1 : nch r = false) (t1 : txt r = true) (c2 : nch q = true) (t2 : txt q = true) (n1 : nameB (bl (Utf8.encode r)) = false) (x1 : textsB (bl (Utf8.encode r)) = true) (n2 : nameB (bl (Utf8.encode r ++ Utf8.encode q)) = false) (x2 : textsB (bl (Utf8.encode r ++ Utf8.encode q)) = true) (zA : (Utf8.encode r).size + (Utf8.encode q).size ≤ 9223372036854775807) (z1 : Hid ((Utf8.encode r).size < 140737488355328)) (z2 : Hid ((Utf8.encode r ++ Utf8.encode q).size < 140737488355328)) : Calls Tryd.prog 6 #[.int .i32 r, .int .i32 q] w fun e w' => e = .returned (.bool true) ∧ Fr [] w w' := by
  have g := Fr.refl [] w
  go_enter Tryd.func6, Tryd.ntmps6
  go_wp2_with (first
    | (go_at_call 14; refine (awake_any _ (HL.out.kept g)).mono ?_; rintro e w5 ⟨rfl, f5⟩; replace g := g.trans f5; clear f5)
    | (go_at_call 8; refine (char_any _ (HL.out.kept g).spans _).mono ?_; rintro e w5 ⟨rfl, f5⟩; replace g := g.trans f5; clear f5)
    | (go_at_call 10; refine (nameStart_any _ (HL.out.kept g).spans _).mono ?_; rintro e w5 ⟨rfl, f5⟩; replace g := g.trans f5; clear f5)
    | (go_at_call 12; refine (nameChar_any _ (HL.out.kept g).spans _).mono ?_; rintro e w5 ⟨rfl, f5⟩; replace g := g.trans f5; clear f5)
    | (go_at_call 15; refine (name_any _ (HL.out.kept g) _).mono ?_; rintro e w5 ⟨rfl, f5⟩; replace g := g.trans f5; clear f5)
    | (go_at_call 17; refine (texts_any _ (HL.out.kept g) _ (by first | exact z1.out | exact z2.out)).mono ?_; rintro e w5 ⟨rfl, f5⟩; replace g := g.trans f5; clear f5))
  go_ret
  exact ⟨rfl, g⟩
set_option maxHeartbeats 4000000 in
set_option maxRecDepth 100000 in
theorem within_g0201 (w : World) (HL : Hid (LaidC w)) (r q : Int) (e1 : decide (r < 0) = false) (e2 : decide (1114111 < r) = false) (e3 : decide (55296 ≤ r) = false) (d1 : decide (q < 0) = false) (d2 : decide (1114111 < q) = false) (d3 : decide (55296 ≤ q) = false) (s1 : nst r = false) (c1 : nch r = false) (t1 : txt r = true) (c2 : nch q = false) (t2 : txt q = true) (n1 : nameB (bl (Utf8.encode r)) = false) (x1 : textsB (bl (Utf8.encode r)) = true) (n2 : nameB (bl (Utf8.encode r ++ Utf8.encode q)) = false) (x2 : textsB (bl (Utf8.encode r ++ Utf8.encode q)) = true) (zA : (Utf8.encode r).size + (Utf8.encode q).size ≤ 9223372036854775807) (z1 : Hid ((Utf8.encode r).size < 140737488355328)) (z2 : Hid ((Utf8.encode r ++ Utf8.encode q).size < 140737488355328)) : Calls Tryd.prog 6 #[.int .i32 r, .int .i32 q] w fun e w' => e = .returned (.bool true) ∧ Fr [] w w' := by
  have g := Fr.refl [] w
  go_enter Tryd.func6, Tryd.ntmps6
  go_wp2_with (first
    | (go_at_call 14; refine (awake_any _ (HL.out.kept g)).mono ?_; rintro e w5 ⟨rfl, f5⟩; replace g := g.trans f5; clear f5)
    | (go_at_call 8; refine (char_any _ (HL.out.kept g).spans _).mono ?_; rintro e w5 ⟨rfl, f5⟩; replace g := g.trans f5; clear f5)
    | (go_at_call 10; refine (nameStart_any _ (HL.out.kept g).spans _).mono ?_; rintro e w5 ⟨rfl, f5⟩; replace g := g.trans f5; clear f5)
    | (go_at_call 12; refine (nameChar_any _ (HL.out.kept g).spans _).mono ?_; rintro e w5 ⟨rfl, f5⟩; replace g := g.trans f5; clear f5)
    | (go_at_call 15; refine (name_any _ (HL.out.kept g) _).mono ?_; rintro e w5 ⟨rfl, f5⟩; replace g := g.trans f5; clear f5)
    | (go_at_call 17; refine (texts_any _ (HL.out.kept g) _ (by first | exact z1.out | exact z2.out)).mono ?_; rintro e w5 ⟨rfl, f5⟩; replace g := g.trans f5; clear f5))
  go_ret
  exact ⟨rfl, g⟩
set_option maxHeartbeats 4000000 in
set_option maxRecDepth 100000 in
theorem within_g0202 (w : World) (HL : Hid (LaidC w)) (r q : Int) (e1 : decide (r < 0) = false) (e2 : decide (1114111 < r) = false) (e3 : decide (55296 ≤ r) = false) (d1 : decide (q < 0) = false) (d2 : decide (1114111 < q) = false) (d3 : decide (55296 ≤ q) = false) (s1 : nst r = false) (c1 : nch r = false) (t1 : txt r = true) (c2 : nch q = false) (t2 : txt q = false) (n1 : nameB (bl (Utf8.encode r)) = false) (x1 : textsB (bl (Utf8.encode r)) = true) (n2 : nameB (bl (Utf8.encode r ++ Utf8.encode q)) = false) (x2 : textsB (bl (Utf8.encode r ++ Utf8.encode q)) = false) (zA : (Utf8.encode r).size + (Utf8.encode q).size ≤ 9223372036854775807) (z1 : Hid ((Utf8.encode r).size < 140737488355328)) (z2 : Hid ((Utf8.encode r ++ Utf8.encode q).size < 140737488355328)) : Calls Tryd.prog 6 #[.int .i32 r, .int .i32 q] w fun e w' => e = .returned (.bool true) ∧ Fr [] w w' := by
  have g := Fr.refl [] w
  go_enter Tryd.func6, Tryd.ntmps6
  go_wp2_with (first
    | (go_at_call 14; refine (awake_any _ (HL.out.kept g)).mono ?_; rintro e w5 ⟨rfl, f5⟩; replace g := g.trans f5; clear f5)
    | (go_at_call 8; refine (char_any _ (HL.out.kept g).spans _).mono ?_; rintro e w5 ⟨rfl, f5⟩; replace g := g.trans f5; clear f5)
    | (go_at_call 10; refine (nameStart_any _ (HL.out.kept g).spans _).mono ?_; rintro e w5 ⟨rfl, f5⟩; replace g := g.trans f5; clear f5)
    | (go_at_call 12; refine (nameChar_any _ (HL.out.kept g).spans _).mono ?_; rintro e w5 ⟨rfl, f5⟩; replace g := g.trans f5; clear f5)
    | (go_at_call 15; refine (name_any _ (HL.out.kept g) _).mono ?_; rintro e w5 ⟨rfl, f5⟩; replace g := g.trans f5; clear f5)
    | (go_at_call 17; refine (texts_any _ (HL.out.kept g) _ (by first | exact z1.out | exact z2.out)).mono ?_; rintro e w5 ⟨rfl, f5⟩; replace g := g.trans f5; clear f5))
  go_ret
  exact ⟨rfl, g⟩
set_option maxHeartbeats 4000000 in
set_option maxRecDepth 100000 in
theorem within_g0210 (w : World) (HL : Hid (LaidC w)) (r q : Int) (e1 : decide (r < 0) = false) (e2 : decide (1114111 < r) = false) (e3 : decide (55296 ≤ r) = false) (d1 : decide (q < 0) = false) (d2 : decide (1114111 < q) = false) (d3 : decide (55296 ≤ q) = true) (d4 : decide (q ≤ 57343) = false) (s1 : nst r = false) (c1 : nch r = false) (t1 : txt r = true) (c2 : nch q = true) (t2 : txt q = true) (n1 : nameB (bl (Utf8.encode r)) = false) (x1 : textsB (bl (Utf8.encode r)) = true) (n2 : nameB (bl (Utf8.encode r ++ Utf8.encode q)) = false) (x2 : textsB (bl (Utf8.encode r ++ Utf8.encode q)) = true) (zA : (Utf8.encode r).size + (Utf8.encode q).size ≤ 9223372036854775807) (z1 : Hid ((Utf8.encode r).size < 140737488355328)) (z2 : Hid ((Utf8.encode r ++ Utf8.encode q).size < 140737488355328)) : Calls Tryd.prog 6 #[.int .i32 r, .int .i32 q] w fun e w' => e = .returned (.bool true) ∧ Fr [] w w' := by
  have g := Fr.refl [] w
  go_enter Tryd.func6, Tryd.ntmps6
  go_wp2_with (first
    | (go_at_call 14; refine (awake_any _ (HL.out.kept g)).mono ?_; rintro e w5 ⟨rfl, f5⟩; replace g := g.trans f5; clear f5)
    | (go_at_call 8; refine (char_any _ (HL.out.kept g).spans _).mono ?_; rintro e w5 ⟨rfl, f5⟩; replace g := g.trans f5; clear f5)
    | (go_at_call 10; refine (nameStart_any _ (HL.out.kept g).spans _).mono ?_; rintro e w5 ⟨rfl, f5⟩; replace g := g.trans f5; clear f5)
    | (go_at_call 12; refine (nameChar_any _ (HL.out.kept g).spans _).mono ?_; rintro e w5 ⟨rfl, f5⟩; replace g := g.trans f5; clear f5)
    | (go_at_call 15; refine (name_any _ (HL.out.kept g) _).mono ?_; rintro e w5 ⟨rfl, f5⟩; replace g := g.trans f5; clear f5)
    | (go_at_call 17; refine (texts_any _ (HL.out.kept g) _ (by first | exact z1.out | exact z2.out)).mono ?_; rintro e w5 ⟨rfl, f5⟩; replace g := g.trans f5; clear f5))
  go_ret
  exact ⟨rfl, g⟩
set_option maxHeartbeats 4000000 in
set_option maxRecDepth 100000 in
theorem within_g0211 (w : World) (HL : Hid (LaidC w)) (r q : Int) (e1 : decide (r < 0) = false) (e2 : decide (1114111 < r) = false) (e3 : decide (55296 ≤ r) = false) (d1 : decide (q < 0) = false) (d2 : decide (1114111 < q) = false) (d3 : decide (55296 ≤ q) = true) (d4 : decide (q ≤ 57343) = false) (s1 : nst r = false) (c1 : nch r = false) (t1 : txt r = true) (c2 : nch q = false) (t2 : txt q = true) (n1 : nameB (bl (Utf8.encode r)) = false) (x1 : textsB (bl (Utf8.encode r)) = true) (n2 : nameB (bl (Utf8.encode r ++ Utf8.encode q)) = false) (x2 : textsB (bl (Utf8.encode r ++ Utf8.encode q)) = true) (zA : (Utf8.encode r).size + (Utf8.encode q).size ≤ 9223372036854775807) (z1 : Hid ((Utf8.encode r).size < 140737488355328)) (z2 : Hid ((Utf8.encode r ++ Utf8.encode q).size < 140737488355328)) : Calls Tryd.prog 6 #[.int .i32 r, .int .i32 q] w fun e w' => e = .returned (.bool true) ∧ Fr [] w w' := by
  have g := Fr.refl [] w
  go_enter Tryd.func6, Tryd.ntmps6
  go_wp2_with (first
    | (go_at_call 14; refine (awake_any _ (HL.out.kept g)).mono ?_; rintro e w5 ⟨rfl, f5⟩; replace g := g.trans f5; clear f5)
    | (go_at_call 8; refine (char_any _ (HL.out.kept g).spans _).mono ?_; rintro e w5 ⟨rfl, f5⟩; replace g := g.trans f5; clear f5)
    | (go_at_call 10; refine (nameStart_any _ (HL.out.kept g).spans _).mono ?_; rintro e w5 ⟨rfl, f5⟩; replace g := g.trans f5; clear f5)
    | (go_at_call 12; refine (nameChar_any _ (HL.out.kept g).spans _).mono ?_; rintro e w5 ⟨rfl, f5⟩; replace g := g.trans f5; clear f5)
    | (go_at_call 15; refine (name_any _ (HL.out.kept g) _).mono ?_; rintro e w5 ⟨rfl, f5⟩; replace g := g.trans f5; clear f5)
    | (go_at_call 17; refine (texts_any _ (HL.out.kept g) _ (by first | exact z1.out | exact z2.out)).mono ?_; rintro e w5 ⟨rfl, f5⟩; replace g := g.trans f5; clear f5))
  go_ret
  exact ⟨rfl, g⟩
set_option maxHeartbeats 4000000 in
set_option maxRecDepth 100000 in
theorem within_g0212 (w : World) (HL : Hid (LaidC w)) (r q : Int) (e1 : decide (r < 0) = false) (e2 : decide (1114111 < r) = false) (e3 : decide (55296 ≤ r) = false) (d1 : decide (q < 0) = false) (d2 : decide (1114111 < q) = false) (d3 : decide (55296 ≤ q) = true) (d4 : decide (q ≤ 57343) = false) (s1 : nst r = false) (c1 : nch r = false) (t1 : txt r = true) (c2 : nch q = false) (t2 : txt q = false) (n1 : nameB (bl (Utf8.encode r)) = false) (x1 : textsB (bl (Utf8.encode r)) = true) (n2 : nameB (bl (Utf8.encode r ++ Utf8.encode q)) = false) (x2 : textsB (bl (Utf8.encode r ++ Utf8.encode q)) = false) (zA : (Utf8.encode r).size + (Utf8.encode q).size ≤ 9223372036854775807) (z1 : Hid ((Utf8.encode r).size < 140737488355328)) (z2 : Hid ((Utf8.encode r ++ Utf8.encode q).size < 140737488355328)) : Calls Tryd.prog 6 #[.int .i32 r, .int .i32 q] w fun e w' => e = .returned (.bool true) ∧ Fr [] w w' := by
  have g := Fr.refl [] w
  go_enter Tryd.func6, Tryd.ntmps6
  go_wp2_with (first
    | (go_at_call 14; refine (awake_any _ (HL.out.kept g)).mono ?_; rintro e w5 ⟨rfl, f5⟩; replace g := g.trans f5; clear f5)
    | (go_at_call 8; refine (char_any _ (HL.out.kept g).spans _).mono ?_; rintro e w5 ⟨rfl, f5⟩; replace g := g.trans f5; clear f5)
    | (go_at_call 10; refine (nameStart_any _ (HL.out.kept g).spans _).mono ?_; rintro e w5 ⟨rfl, f5⟩; replace g := g.trans f5; clear f5)
    | (go_at_call 12; refine (nameChar_any _ (HL.out.kept g).spans _).mono ?_; rintro e w5 ⟨rfl, f5⟩; replace g := g.trans f5; clear f5)
    | (go_at_call 15; refine (name_any _ (HL.out.kept g) _).mono ?_; rintro e w5 ⟨rfl, f5⟩; replace g := g.trans f5; clear f5)
    | (go_at_call 17; refine (texts_any _ (HL.out.kept g) _ (by first | exact z1.out | exact z2.out)).mono ?_; rintro e w5 ⟨rfl, f5⟩; replace g := g.trans f5; clear f5))
  go_ret
  exact ⟨rfl, g⟩
set_option maxHeartbeats 4000000 in
set_option maxRecDepth 100000 in
theorem within_q030 (w : World) (HL : Hid (LaidC w)) (r q : Int) (e1 : decide (r < 0) = false) (e2 : decide (1114111 < r) = false) (e3 : decide (55296 ≤ r) = false) (d1 : decide (q < 0) = true) (s1 : nst r = false) (c1 : nch r = false) (t1 : txt r = false) (t2 : txt q = false) : Calls Tryd.prog 6 #[.int .i32 r, .int .i32 q] w fun e w' => e = .returned (.bool true) ∧ Fr [] w w' := by
  have g := Fr.refl [] w
  go_enter Tryd.func6, Tryd.ntmps6
  go_wp2_with (first
    | (go_at_call 14; refine (awake_any _ (HL.out.kept g)).mono ?_; rintro e w5 ⟨rfl, f5⟩; replace g := g.trans f5; clear f5)
    | (go_at_call 8; refine (char_any _ (HL.out.kept g).spans _).mono ?_; rintro e w5 ⟨rfl, f5⟩; replace g := g.trans f5; clear f5)
    | (go_at_call 10; refine (nameStart_any _ (HL.out.kept g).spans _).mono ?_; rintro e w5 ⟨rfl, f5⟩; replace g := g.trans f5; clear f5)
    | (go_at_call 12; refine (nameChar_any _ (HL.out.kept g).spans _).mono ?_; rintro e w5 ⟨rfl, f5⟩; replace g := g.trans f5; clear f5)
    | (go_at_call 15; refine (name_any _ (HL.out.kept g) _).mono ?_; rintro e w5 ⟨rfl, f5⟩; replace g := g.trans f5; clear f5)
    | (go_at_call 17; refine (texts_any _ (HL.out.kept g) _ (by omega)).mono ?_; rintro e w5 ⟨rfl, f5⟩; replace g := g.trans f5; clear f5))
  go_ret
  exact ⟨rfl, g⟩
set_option maxHeartbeats 4000000 in
set_option maxRecDepth 100000 in
theorem within_q031 (w : World) (HL : Hid (LaidC w)) (r q : Int) (e1 : decide (r < 0) = false) (e2 : decide (1114111 < r) = false) (e3 : decide (55296 ≤ r) = false) (d1 : decide (q < 0) = false) (d2 : decide (1114111 < q) = true) (s1 : nst r = false) (c1 : nch r = false) (t1 : txt r = false) (t2 : txt q = false) : Calls Tryd.prog 6 #[.int .i32 r, .int .i32 q] w fun e w' => e = .returned (.bool true) ∧ Fr [] w w' := by
  have g := Fr.refl [] w
  go_enter Tryd.func6, Tryd.ntmps6
  go_wp2_with (first
    | (go_at_call 14; refine (awake_any _ (HL.out.kept g)).mono ?_; rintro e w5 ⟨rfl, f5⟩; replace g := g.trans f5; clear f5)
    | (go_at_call 8; refine (char_any _ (HL.out.kept g).spans _).mono ?_; rintro e w5 ⟨rfl, f5⟩; replace g := g.trans f5; clear f5)
    | (go_at_call 10; refine (nameStart_any _ (HL.out.kept g).spans _).mono ?_; rintro e w5 ⟨rfl, f5⟩; replace g := g.trans f5; clear f5)
    | (go_at_call 12; refine (nameChar_any _ (HL.out.kept g).spans _).mono ?_; rintro e w5 ⟨rfl, f5⟩; replace g := g.trans f5; clear f5)
    | (go_at_call 15; refine (name_any _ (HL.out.kept g) _).mono ?_; rintro e w5 ⟨rfl, f5⟩; replace g := g.trans f5; clear f5)
    | (go_at_call 17; refine (texts_any _ (HL.out.kept g) _ (by omega)).mono ?_; rintro e w5 ⟨rfl, f5⟩; replace g := g.trans f5; clear f5))
  go_ret
  exact ⟨rfl, g⟩
set_option maxHeartbeats 4000000 in
set_option maxRecDepth 100000 in
theorem within_q032 (w : World) (HL : Hid (LaidC w)) (r q : Int) (e1 : decide (r < 0) = false) (e2 : decide (1114111 < r) = false) (e3 : decide (55296 ≤ r) = false) (d1 : decide (q < 0) = false) (d2 : decide (1114111 < q) = false) (d3 : decide (55296 ≤ q) = true) (d4 : decide (q ≤ 57343) = true) (s1 : nst r = false) (c1 : nch r = false) (t1 : txt r = false) (t2 : txt q = false) : Calls Tryd.prog 6 #[.int .i32 r, .int .i32 q] w fun e w' => e = .returned (.bool true) ∧ Fr [] w w' := by
  have g := Fr.refl [] w
  go_enter Tryd.func6, Tryd.ntmps6
  go_wp2_with (first
    | (go_at_call 14; refine (awake_any _ (HL.out.kept g)).mono ?_; rintro e w5 ⟨rfl, f5⟩; replace g := g.trans f5; clear f5)
    | (go_at_call 8; refine (char_any _ (HL.out.kept g).spans _).mono ?_; rintro e w5 ⟨rfl, f5⟩; replace g := g.trans f5; clear f5)
    | (go_at_call 10; refine (nameStart_any _ (HL.out.kept g).spans _).mono ?_; rintro e w5 ⟨rfl, f5⟩; replace g := g.trans f5; clear f5)
    | (go_at_call 12; refine (nameChar_any _ (HL.out.kept g).spans _).mono ?_; rintro e w5 ⟨rfl, f5⟩; replace g := g.trans f5; clear f5)
    | (go_at_call 15; refine (name_any _ (HL.out.kept g) _).mono ?_; rintro e w5 ⟨rfl, f5⟩; replace g := g.trans f5; clear f5)
    | (go_at_call 17; refine (texts_any _ (HL.out.kept g) _ (by omega)).mono ?_; rintro e w5 ⟨rfl, f5⟩; replace g := g.trans f5; clear f5))
  go_ret
  exact ⟨rfl, g⟩
set_option maxHeartbeats 4000000 in
set_option maxRecDepth 100000 in
theorem within_g0300 (w : World) (HL : Hid (LaidC w)) (r q : Int) (e1 : decide (r < 0) = false) (e2 : decide (1114111 < r) = false) (e3 : decide (55296 ≤ r) = false) (d1 : decide (q < 0) = false) (d2 : decide (1114111 < q) = false) (d3 : decide (55296 ≤ q) = false) (s1 : nst r = false) (c1 : nch r = false) (t1 : txt r = false) (c2 : nch q = true) (t2 : txt q = true) (n1 : nameB (bl (Utf8.encode r)) = false) (x1 : textsB (bl (Utf8.encode r)) = false) (n2 : nameB (bl (Utf8.encode r ++ Utf8.encode q)) = false) (x2 : textsB (bl (Utf8.encode r ++ Utf8.encode q)) = false) (zA : (Utf8.encode r).size + (Utf8.encode q).size ≤ 9223372036854775807) (z1 : Hid ((Utf8.encode r).size < 140737488355328)) (z2 : Hid ((Utf8.encode r ++ Utf8.encode q).size < 140737488355328)) : Calls Tryd.prog 6 #[.int .i32 r, .int .i32 q] w fun e w' => e = .returned (.bool true) ∧ Fr [] w w' := by
  have g := Fr.refl [] w
  go_enter Tryd.func6, Tryd.ntmps6
  go_wp2_with (first
    | (go_at_call 14; refine (awake_any _ (HL.out.kept g)).mono ?_; rintro e w5 ⟨rfl, f5⟩; replace g := g.trans f5; clear f5)
    | (go_at_call 8; refine (char_any _ (HL.out.kept g).spans _).mono ?_; rintro e w5 ⟨rfl, f5⟩; replace g := g.trans f5; clear f5)
    | (go_at_call 10; refine (nameStart_any _ (HL.out.kept g).spans _).mono ?_; rintro e w5 ⟨rfl, f5⟩; replace g := g.trans f5; clear f5)
    | (go_at_call 12; refine (nameChar_any _ (HL.out.kept g).spans _).mono ?_; rintro e w5 ⟨rfl, f5⟩; replace g := g.trans f5; clear f5)
    | (go_at_call 15; refine (name_any _ (HL.out.kept g) _).mono ?_; rintro e w5 ⟨rfl, f5⟩; replace g := g.trans f5; clear f5)
    | (go_at_call 17; refine (texts_any _ (HL.out.kept g) _ (by first | exact z1.out | exact z2.out)).mono ?_; rintro e w5 ⟨rfl, f5⟩; replace g := g.trans f5; clear f5))
  go_ret
  exact ⟨rfl, g⟩
set_option maxHeartbeats 4000000 in
set_option maxRecDepth 100000 in
theorem within_g0301 (w : World) (HL : Hid (LaidC w)) (r q : Int) (e1 : decide (r < 0) = false) (e2 : decide (1114111 < r) = false) (e3 : decide (55296 ≤ r) = false) (d1 : decide (q < 0) = false) (d2 : decide (1114111 < q) = false) (d3 : decide (55296 ≤ q) = false) (s1 : nst r = false) (c1 : nch r = false) (t1 : txt r = false) (c2 : nch q = false) (t2 : txt q = true) (n1 : nameB (bl (Utf8.encode r)) = false) (x1 : textsB (bl (Utf8.encode r)) = false) (n2 : nameB (bl (Utf8.encode r ++ Utf8.encode q)) = false) (x2 : textsB (bl (Utf8.encode r ++ Utf8.encode q)) = false) (zA : (Utf8.encode r).size + (Utf8.encode q).size ≤ 9223372036854775807) (z1 : Hid ((Utf8.encode r).size < 140737488355328)) (z2 : Hid ((Utf8.encode r ++ Utf8.encode q).size < 140737488355328)) : Calls Tryd.prog 6 #[.int .i32 r, .int .i32 q] w fun e w' => e = .returned (.bool true) ∧ Fr [] w w' := by
  have g := Fr.refl [] w
  go_enter Tryd.func6, Tryd.ntmps6
  go_wp2_with (first
    | (go_at_call 14; refine (awake_any _ (HL.out.kept g)).mono ?_; rintro e w5 ⟨rfl, f5⟩; replace g := g.trans f5; clear f5)
    | (go_at_call 8; refine (char_any _ (HL.out.kept g).spans _).mono ?_; rintro e w5 ⟨rfl, f5⟩; replace g := g.trans f5; clear f5)
    | (go_at_call 10; refine (nameStart_any _ (HL.out.kept g).spans _).mono ?_; rintro e w5 ⟨rfl, f5⟩; replace g := g.trans f5; clear f5)
    | (go_at_call 12; refine (nameChar_any _ (HL.out.kept g).spans _).mono ?_; rintro e w5 ⟨rfl, f5⟩; replace g := g.trans f5; clear f5)
    | (go_at_call 15; refine (name_any _ (HL.out.kept g) _).mono ?_; rintro e w5 ⟨rfl, f5⟩; replace g := g.trans f5; clear f5)
    | (go_at_call 17; refine (texts_any _ (HL.out.kept g) _ (by first | exact z1.out | exact z2.out)).mono ?_; rintro e w5 ⟨rfl, f5⟩; replace g := g.trans f5; clear f5))
  go_ret
  exact ⟨rfl, g⟩
set_option maxHeartbeats 4000000 in
set_option maxRecDepth 100000 in
theorem within_g0302 (w : World) (HL : Hid (LaidC w)) (r q : Int) (e1 : decide (r < 0) = false) (e2 : decide (1114111 < r) = false) (e3 : decide (55296 ≤ r) = false) (d1 : decide (q < 0) = false) (d2 : decide (1114111 < q) = false) (d3 : decide (55296 ≤ q) = false) (s1 : nst r = false) (c1 : nch r = false) (t1 : txt r = false) (c2 : nch q = false) (t2 : txt q = false) (n1 : nameB (bl (Utf8.encode r)) = false) (x1 : textsB (bl (Utf8.encode r)) = false) (n2 : nameB (bl (Utf8.encode r ++ Utf8.encode q)) = false) (x2 : textsB (bl (Utf8.encode r ++ Utf8.encode q)) = false) (zA : (Utf8.encode r).size + (Utf8.encode q).size ≤ 9223372036854775807) (z1 : Hid ((Utf8.encode r).size < 140737488355328)) (z2 : Hid ((Utf8.encode r ++ Utf8.encode q).size < 140737488355328)) : Calls Tryd.prog 6 #[.int .i32 r, .int .i32 q] w fun e w' => e = .returned (.bool true) ∧ Fr [] w w' := by
  have g := Fr.refl [] w
  go_enter Tryd.func6, Tryd.ntmps6
  go_wp2_with (first
    | (go_at_call 14; refine (awake_any _ (HL.out.kept g)).mono ?_; rintro e w5 ⟨rfl, f5⟩; replace g := g.trans f5; clear f5)
    | (go_at_call 8; refine (char_any _ (HL.out.kept g).spans _).mono ?_; rintro e w5 ⟨rfl, f5⟩; replace g := g.trans f5; clear f5)
    | (go_at_call 10; refine (nameStart_any _ (HL.out.kept g).spans _).mono ?_; rintro e w5 ⟨rfl, f5⟩; replace g := g.trans f5; clear f5)
    | (go_at_call 12; refine (nameChar_any _ (HL.out.kept g).spans _).mono ?_; rintro e w5 ⟨rfl, f5⟩; replace g := g.trans f5; clear f5)
    | (go_at_call 15; refine (name_any _ (HL.out.kept g) _).mono ?_; rintro e w5 ⟨rfl, f5⟩; replace g := g.trans f5; clear f5)
    | (go_at_call 17; refine (texts_any _ (HL.out.kept g) _ (by first | exact z1.out | exact z2.out)).mono ?_; rintro e w5 ⟨rfl, f5⟩; replace g := g.trans f5; clear f5))
  go_ret
  exact ⟨rfl, g⟩
set_option maxHeartbeats 4000000 in
set_option maxRecDepth 100000 in
theorem within_g0310 (w : World) (HL : Hid (LaidC w)) (r q : Int) (e1 : decide (r < 0) = false) (e2 : decide (1114111 < r) = false) (e3 : decide (55296 ≤ r) = false) (d1 : decide (q < 0) = false) (d2 : decide (1114111 < q) = false) (d3 : decide (55296 ≤ q) = true) (d4 : decide (q ≤ 57343) = false) (s1 : nst r = false) (c1 : nch r = false) (t1 : txt r = false) (c2 : nch q = true) (t2 : txt q = true) (n1 : nameB (bl (Utf8.encode r)) = false) (x1 : textsB (bl (Utf8.encode r)) = false) (n2 : nameB (bl (Utf8.encode r ++ Utf8.encode q)) = false) (x2 : textsB (bl (Utf8.encode r ++ Utf8.encode q)) = false) (zA : (Utf8.encode r).size + (Utf8.encode q).size ≤ 9223372036854775807) (z1 : Hid ((Utf8.encode r).size < 140737488355328)) (z2 : Hid ((Utf8.encode r ++ Utf8.encode q).size < 140737488355328)) : Calls Tryd.prog 6 #[.int .i32 r, .int .i32 q] w fun e w' => e = .returned (.bool true) ∧ Fr [] w w' := by
  have g := Fr.refl [] w
  go_enter Tryd.func6, Tryd.ntmps6
  go_wp2_with (first
    | (go_at_call 14; refine (awake_any _ (HL.out.kept g)).mono ?_; rintro e w5 ⟨rfl, f5⟩; replace g := g.trans f5; clear f5)
    | (go_at_call 8; refine (char_any _ (HL.out.kept g).spans _).mono ?_; rintro e w5 ⟨rfl, f5⟩; replace g := g.trans f5; clear f5)
    | (go_at_call 10; refine (nameStart_any _ (HL.out.kept g).spans _).mono ?_; rintro e w5 ⟨rfl, f5⟩; replace g := g.trans f5; clear f5)
    | (go_at_call 12; refine (nameChar_any _ (HL.out.kept g).spans _).mono ?_; rintro e w5 ⟨rfl, f5⟩; replace g := g.trans f5; clear f5)
    | (go_at_call 15; refine (name_any _ (HL.out.kept g) _).mono ?_; rintro e w5 ⟨rfl, f5⟩; replace g := g.trans f5; clear f5)
    | (go_at_call 17; refine (texts_any _ (HL.out.kept g) _ (by first | exact z1.out | exact z2.out)).mono ?_; rintro e w5 ⟨rfl, f5⟩; replace g := g.trans f5; clear f5))
  go_ret
  exact ⟨rfl, g⟩
set_option maxHeartbeats 4000000 in
set_option maxRecDepth 100000 in
theorem within_g0311 (w : World) (HL : Hid (LaidC w)) (r q : Int) (e1 : decide (r < 0) = false) (e2 : decide (1114111 < r) = false) (e3 : decide (55296 ≤ r) = false) (d1 : decide (q < 0) = false) (d2 : decide (1114111 < q) = false) (d3 : decide (55296 ≤ q) = true) (d4 : decide (q ≤ 57343) = false) (s1 : nst r = false) (c1 : nch r = false) (t1 : txt r = false) (c2 : nch q = false) (t2 : txt q = true) (n1 : nameB (bl (Utf8.encode r)) = false) (x1 : textsB (bl (Utf8.encode r)) = false) (n2 : nameB (bl (Utf8.encode r ++ Utf8.encode q)) = false) (x2 : textsB (bl (Utf8.encode r ++ Utf8.encode q)) = false) (zA : (Utf8.encode r).size + (Utf8.encode q).size ≤ 9223372036854775807) (z1 : Hid ((Utf8.encode r).size < 140737488355328)) (z2 : Hid ((Utf8.encode r ++ Utf8.encode q).size < 140737488355328)) : Calls Tryd.prog 6 #[.int .i32 r, .int .i32 q] w fun e w' => e = .returned (.bool true) ∧ Fr [] w w' := by
  have g := Fr.refl [] w
  go_enter Tryd.func6, Tryd.ntmps6
  go_wp2_with (first
    | (go_at_call 14; refine (awake_any _ (HL.out.kept g)).mono ?_; rintro e w5 ⟨rfl, f5⟩; replace g := g.trans f5; clear f5)
    | (go_at_call 8; refine (char_any _ (HL.out.kept g).spans _).mono ?_; rintro e w5 ⟨rfl, f5⟩; replace g := g.trans f5; clear f5)
    | (go_at_call 10; refine (nameStart_any _ (HL.out.kept g).spans _).mono ?_; rintro e w5 ⟨rfl, f5⟩; replace g := g.trans f5; clear f5)
    | (go_at_call 12; refine (nameChar_any _ (HL.out.kept g).spans _).mono ?_; rintro e w5 ⟨rfl, f5⟩; replace g := g.trans f5; clear f5)
    | (go_at_call 15; refine (name_any _ (HL.out.kept g) _).mono ?_; rintro e w5 ⟨rfl, f5⟩; replace g := g.trans f5; clear f5)
    | (go_at_call 17; refine (texts_any _ (HL.out.kept g) _ (by first | exact z1.out | exact z2.out)).mono ?_; rintro e w5 ⟨rfl, f5⟩; replace g := g.trans f5; clear f5))
  go_ret
  exact ⟨rfl, g⟩
set_option maxHeartbeats 4000000 in
set_option maxRecDepth 100000 in
theorem within_g0312 (w : World) (HL : Hid (LaidC w)) (r q : Int) (e1 : decide (r < 0) = false) (e2 : decide (1114111 < r) = false) (e3 : decide (55296 ≤ r) = false) (d1 : decide (q < 0) = false) (d2 : decide (1114111 < q) = false) (d3 : decide (55296 ≤ q) = true) (d4 : decide (q ≤ 57343) = false) (s1 : nst r = false) (c1 : nch r = false) (t1 : txt r = false) (c2 : nch q = false) (t2 : txt q = false) (n1 : nameB (bl (Utf8.encode r)) = false) (x1 : textsB (bl (Utf8.encode r)) = false) (n2 : nameB (bl (Utf8.encode r ++ Utf8.encode q)) = false) (x2 : textsB (bl (Utf8.encode r ++ Utf8.encode q)) = false) (zA : (Utf8.encode r).size + (Utf8.encode q).size ≤ 9223372036854775807) (z1 : Hid ((Utf8.encode r).size < 140737488355328)) (z2 : Hid ((Utf8.encode r ++ Utf8.encode q).size < 140737488355328)) : Calls Tryd.prog 6 #[.int .i32 r, .int .i32 q] w fun e w' => e = .returned (.bool true) ∧ Fr [] w w' := by
  have g := Fr.refl [] w
  go_enter Tryd.func6, Tryd.ntmps6
  go_wp2_with (first
    | (go_at_call 14; refine (awake_any _ (HL.out.kept g)).mono ?_; rintro e w5 ⟨rfl, f5⟩; replace g := g.trans f5; clear f5)
    | (go_at_call 8; refine (char_any _ (HL.out.kept g).spans _).mono ?_; rintro e w5 ⟨rfl, f5⟩; replace g := g.trans f5; clear f5)
    | (go_at_call 10; refine (nameStart_any _ (HL.out.kept g).spans _).mono ?_; rintro e w5 ⟨rfl, f5⟩; replace g := g.trans f5; clear f5)
    | (go_at_call 12; refine (nameChar_any _ (HL.out.kept g).spans _).mono ?_; rintro e w5 ⟨rfl, f5⟩; replace g := g.trans f5; clear f5)
    | (go_at_call 15; refine (name_any _ (HL.out.kept g) _).mono ?_; rintro e w5 ⟨rfl, f5⟩; replace g := g.trans f5; clear f5)
    | (go_at_call 17; refine (texts_any _ (HL.out.kept g) _ (by first | exact z1.out | exact z2.out)).mono ?_; rintro e w5 ⟨rfl, f5⟩; replace g := g.trans f5; clear f5))
  go_ret
  exact ⟨rfl, g⟩
set_option maxHeartbeats 4000000 in
set_option maxRecDepth 100000 in
theorem within_q100 (w : World) (HL : Hid (LaidC w)) (r q : Int) (e1 : decide (r < 0) = false) (e2 : decide (1114111 < r) = false) (e3 : decide (55296 ≤ r) = true) (e4 : decide (r ≤ 57343) = false) (d1 : decide (q < 0) = true) (s1 : nst r = true) (c1 : nch r = true) (t1 : txt r = true) (t2 : txt q = false) : Calls Tryd.prog 6 #[.int .i32 r, .int .i32 q] w fun e w' => e = .returned (.bool true) ∧ Fr [] w w' := by
  have g := Fr.refl [] w
  go_enter Tryd.func6, Tryd.ntmps6
  go_wp2_with (first
    | (go_at_call 14; refine (awake_any _ (HL.out.kept g)).mono ?_; rintro e w5 ⟨rfl, f5⟩; replace g := g.trans f5; clear f5)
    | (go_at_call 8; refine (char_any _ (HL.out.kept g).spans _).mono ?_; rintro e w5 ⟨rfl, f5⟩; replace g := g.trans f5; clear f5)
    | (go_at_call 10; refine (nameStart_any _ (HL.out.kept g).spans _).mono ?_; rintro e w5 ⟨rfl, f5⟩; replace g := g.trans f5; clear f5)
    | (go_at_call 12; refine (nameChar_any _ (HL.out.kept g).spans _).mono ?_; rintro e w5 ⟨rfl, f5⟩; replace g := g.trans f5; clear f5)
    | (go_at_call 15; refine (name_any _ (HL.out.kept g) _).mono ?_; rintro e w5 ⟨rfl, f5⟩; replace g := g.trans f5; clear f5)
    | (go_at_call 17; refine (texts_any _ (HL.out.kept g) _ (by omega)).mono ?_; rintro e w5 ⟨rfl, f5⟩; replace g := g.trans f5; clear f5))
  go_ret
  exact ⟨rfl, g⟩
set_option maxHeartbeats 4000000 in
set_option maxRecDepth 100000 in
theorem within_q101 (w : World) (HL : Hid (LaidC w)) (r q : Int) (e1 : decide (r < 0) = false) (e2 : decide (1114111 < r) = false) (e3 : decide (55296 ≤ r) = true) (e4 : decide (r ≤ 57343) = false) (d1 : decide (q < 0) = false) (d2 : decide (1114111 < q) = true) (s1 : nst r = true) (c1 : nch r = true) (t1 : txt r = true) (t2 : txt q = false) : Calls Tryd.prog 6 #[.int .i32 r, .int .i32 q] w fun e w' => e = .returned (.bool true) ∧ Fr [] w w' := by
  have g := Fr.refl [] w
  go_enter Tryd.func6, Tryd.ntmps6
  go_wp2_with (first
    | (go_at_call 14; refine (awake_any _ (HL.out.kept g)).mono ?_; rintro e w5 ⟨rfl, f5⟩; replace g := g.trans f5; clear f5)
    | (go_at_call 8; refine (char_any _ (HL.out.kept g).spans _).mono ?_; rintro e w5 ⟨rfl, f5⟩; replace g := g.trans f5; clear f5)
    | (go_at_call 10; refine (nameStart_any _ (HL.out.kept g).spans _).mono ?_; rintro e w5 ⟨rfl, f5⟩; replace g := g.trans f5; clear f5)
    | (go_at_call 12; refine (nameChar_any _ (HL.out.kept g).spans _).mono ?_; rintro e w5 ⟨rfl, f5⟩; replace g := g.trans f5; clear f5)
    | (go_at_call 15; refine (name_any _ (HL.out.kept g) _).mono ?_; rintro e w5 ⟨rfl, f5⟩; replace g := g.trans f5; clear f5)
    | (go_at_call 17; refine (texts_any _ (HL.out.kept g) _ (by omega)).mono ?_; rintro e w5 ⟨rfl, f5⟩; replace g := g.trans f5; clear f5))
  go_ret
  exact ⟨rfl, g⟩
set_option maxHeartbeats 4000000 in
set_option maxRecDepth 100000 in
theorem within_q102 (w : World) (HL : Hid (LaidC w)) (r q : Int) (e1 : decide (r < 0) = false) (e2 : decide (1114111 < r) = false) (e3 : decide (55296 ≤ r) = true) (e4 : decide (r ≤ 57343) = false) (d1 : decide (q < 0) = false) (d2 : decide (1114111 < q) = false) (d3 : decide (55296 ≤ q) = true) (d4 : decide (q ≤ 57343) = true) (s1 : nst r = true) (c1 : nch r = true) (t1 : txt r = true) (t2 : txt q = false) : Calls Tryd.prog 6 #[.int .i32 r, .int .i32 q] w fun e w' => e = .returned (.bool true) ∧ Fr [] w w' := by
  have g := Fr.refl [] w
  go_enter Tryd.func6, Tryd.ntmps6
  go_wp2_with (first
    | (go_at_call 14; refine (awake_any _ (HL.out.kept g)).mono ?_; rintro e w5 ⟨rfl, f5⟩; replace g := g.trans f5; clear f5)
    | (go_at_call 8; refine (char_any _ (HL.out.kept g).spans _).mono ?_; rintro e w5 ⟨rfl, f5⟩; replace g := g.trans f5; clear f5)
    | (go_at_call 10; refine (nameStart_any _ (HL.out.kept g).spans _).mono ?_; rintro e w5 ⟨rfl, f5⟩; replace g := g.trans f5; clear f5)
    | (go_at_call 12; refine (nameChar_any _ (HL.out.kept g).spans _).mono ?_; rintro e w5 ⟨rfl, f5⟩; replace g := g.trans f5; clear f5)
    | (go_at_call 15; refine (name_any _ (HL.out.kept g) _).mono ?_; rintro e w5 ⟨rfl, f5⟩; replace g := g.trans f5; clear f5)
    | (go_at_call 17; refine (texts_any _ (HL.out.kept g) _ (by omega)).mono ?_; rintro e w5 ⟨rfl, f5⟩; replace g := g.trans f5; clear f5))
  go_ret
  exact ⟨rfl, g⟩
set_option maxHeartbeats 4000000 in
set_option maxRecDepth 100000 in
theorem within_g1000 (w : World) (HL : Hid (LaidC w)) (r q : Int) (e1 : decide (r < 0) = false) (e2 : decide (1114111 < r) = false) (e3 : decide (55296 ≤ r) = true) (e4 : decide (r ≤ 57343) = false) (d1 : decide (q < 0) = false) (d2 : decide (1114111 < q) = false) (d3 : decide (55296 ≤ q) = false) (s1 : nst r = true) (c1 : nch r = true) (t1 : txt r = true) (c2 : nch q = true) (t2 : txt q = true) (n1 : nameB (bl (Utf8.encode r)) = true) (x1 : textsB (bl (Utf8.encode r)) = true) (n2 : nameB (bl (Utf8.encode r ++ Utf8.encode q)) = true) (x2 : textsB (bl (Utf8.encode r ++ Utf8.encode q)) = true) (zA : (Utf8.encode r).size + (Utf8.encode q).size ≤ 9223372036854775807) (z1 : Hid ((Utf8.encode r).size < 140737488355328)) (z2 : Hid ((Utf8.encode r ++ Utf8.encode q).size < 140737488355328)) : Calls Tryd.prog 6 #[.int .i32 r, .int .i32 q] w fun e w' => e = .returned (.bool true) ∧ Fr [] w w' := by
  have g := Fr.refl [] w
  go_enter Tryd.func6, Tryd.ntmps6
  go_wp2_with (first
    | (go_at_call 14; refine (awake_any _ (HL.out.kept g)).mono ?_; rintro e w5 ⟨rfl, f5⟩; replace g := g.trans f5; clear f5)
    | (go_at_call 8; refine (char_any _ (HL.out.kept g).spans _).mono ?_; rintro e w5 ⟨rfl, f5⟩; replace g := g.trans f5; clear f5)
    | (go_at_call 10; refine (nameStart_any _ (HL.out.kept g).spans _).mono ?_; rintro e w5 ⟨rfl, f5⟩; replace g := g.trans f5; clear f5)
    | (go_at_call 12; refine (nameChar_any _ (HL.out.kept g).spans _).mono ?_; rintro e w5 ⟨rfl, f5⟩; replace g := g.trans f5; clear f5)
    | (go_at_call 15; refine (name_any _ (HL.out.kept g) _).mono ?_; rintro e w5 ⟨rfl, f5⟩; replace g := g.trans f5; clear f5)
    | (go_at_call 17; refine (texts_any _ (HL.out.kept g) _ (by first | exact z1.out | exact z2.out)).mono ?_; rintro e w5 ⟨rfl, f5⟩; replace g := g.trans f5; clear f5))
  go_ret
  exact ⟨rfl, g⟩
set_option maxHeartbeats 4000000 in
set_option maxRecDepth 100000 in
theorem within_g1001 (w : World) (HL : Hid (LaidC w)) (r q : Int) (e1 : decide (r < 0) = false) (e2 : decide (1114111 < r) = false) (e3 : decide (55296 ≤ r) = true) (e4 : decide (r ≤ 57343) = false) (d1 : decide (q < 0) = false) (d2 : decide (1114111 < q) = false) (d3 : decide (55296 ≤ q) = false) (s1 : nst r = true) (c1 : nch r = true) (t1 : txt r = true) (c2 : nch q = false) (t2 : txt q = true) (n1 : nameB (bl (Utf8.encode r)) = true) (x1 : textsB (bl (Utf8.encode r)) = true) (n2 : nameB (bl (Utf8.encode r ++ Utf8.encode q)) = false) (x2 : textsB (bl (Utf8.encode r ++ Utf8.encode q)) = true) (zA : (Utf8.encode r).size + (Utf8.encode q).size ≤ 9223372036854775807) (z1 : Hid ((Utf8.encode r).size < 140737488355328)) (z2 : Hid ((Utf8.encode r ++ Utf8.encode q).size < 140737488355328)) : Calls Tryd.prog 6 #[.int .i32 r, .int .i32 q] w fun e w' => e = .returned (.bool true) ∧ Fr [] w w' := by
  have g := Fr.refl [] w
  go_enter Tryd.func6, Tryd.ntmps6
  go_wp2_with (first
    | (go_at_call 14; refine (awake_any _ (HL.out.kept g)).mono ?_; rintro e w5 ⟨rfl, f5⟩; replace g := g.trans f5; clear f5)
    | (go_at_call 8; refine (char_any _ (HL.out.kept g).spans _).mono ?_; rintro e w5 ⟨rfl, f5⟩; replace g := g.trans f5; clear f5)
    | (go_at_call 10; refine (nameStart_any _ (HL.out.kept g).spans _).mono ?_; rintro e w5 ⟨rfl, f5⟩; replace g := g.trans f5; clear f5)
    | (go_at_call 12; refine (nameChar_any _ (HL.out.kept g).spans _).mono ?_; rintro e w5 ⟨rfl, f5⟩; replace g := g.trans f5; clear f5)
    | (go_at_call 15; refine (name_any _ (HL.out.kept g) _).mono ?_; rintro e w5 ⟨rfl, f5⟩; replace g := g.trans f5; clear f5)
    | (go_at_call 17; refine (texts_any _ (HL.out.kept g) _ (by first | exact z1.out | exact z2.out)).mono ?_; rintro e w5 ⟨rfl, f5⟩; replace g := g.trans f5; clear f5))
  go_ret
  exact ⟨rfl, g⟩
set_option maxHeartbeats 4000000 in
set_option maxRecDepth 100000 in
theorem within_g1002 (w : World) (HL : Hid (LaidC w)) (r q : Int) (e1 : decide (r < 0) = false) (e2 : decide (1114111 < r) = false) (e3 : decide (55296 ≤ r) = true) (e4 : decide (r ≤ 57343) = false) (d1 : decide (q < 0) = false) (d2 : decide (1114111 < q) = false) (d3 : decide (55296 ≤ q) = false) (s1 : nst r = true) (c1 : nch r = true) (t1 : txt r = true) (c2 : nch q = false) (t2 : txt q = false) (n1 : nameB (bl (Utf8.encode r)) = true) (x1 : textsB (bl (Utf8.encode r)) = true) (n2 : nameB (bl (Utf8.encode r ++ Utf8.encode q)) = false) (x2 : textsB (bl (Utf8.encode r ++ Utf8.encode q)) = false) (zA : (Utf8.encode r).size + (Utf8.encode q).size ≤ 9223372036854775807) (z1 : Hid ((Utf8.encode r).size < 140737488355328)) (z2 : Hid ((Utf8.encode r ++ Utf8.encode q).size < 140737488355328)) : Calls Tryd.prog 6 #[.int .i32 r, .int .i32 q] w fun e w' => e = .returned (.bool true) ∧ Fr [] w w' := by
  have g := Fr.refl [] w
  go_enter Tryd.func6, Tryd.ntmps6
  go_wp2_with (first
    | (go_at_call 14; refine (awake_any _ (HL.out.kept g)).mono ?_; rintro e w5 ⟨rfl, f5⟩; replace g := g.trans f5; clear f5)
    | (go_at_call 8; refine (char_any _ (HL.out.kept g).spans _).mono ?_; rintro e w5 ⟨rfl, f5⟩; replace g := g.trans f5; clear f5)
    | (go_at_call 10; refine (nameStart_any _ (HL.out.kept g).spans _).mono ?_; rintro e w5 ⟨rfl, f5⟩; replace g := g.trans f5; clear f5)
    | (go_at_call 12; refine (nameChar_any _ (HL.out.kept g).spans _).mono ?_; rintro e w5 ⟨rfl, f5⟩; replace g := g.trans f5; clear f5)
    | (go_at_call 15; refine (name_any _ (HL.out.kept g) _).mono ?_; rintro e w5 ⟨rfl, f5⟩; replace g := g.trans f5; clear f5)
    | (go_at_call 17; refine (texts_any _ (HL.out.kept g) _ (by first | exact z1.out | exact z2.out)).mono ?_; rintro e w5 ⟨rfl, f5⟩; replace g := g.trans f5; clear f5))
  go_ret
  exact ⟨rfl, g⟩
set_option maxHeartbeats 4000000 in
set_option maxRecDepth 100000 in
theorem within_g1010 (w : World) (HL : Hid (LaidC w)) (r q : Int) (e1 : decide (r < 0) = false) (e2 : decide (1114111 < r) = false) (e3 : decide (55296 ≤ r) = true) (e4 : decide (r ≤ 57343) = false) (d1 : decide (q < 0) = false) (d2 : decide (1114111 < q) = false) (d3 : decide (55296 ≤ q) = true) (d4 : decide (q ≤ 57343) = false) (s1 : nst r = true) (c1 : nch r = true) (t1 : txt r = true) (c2 : nch q = true) (t2 : txt q = true) (n1 : nameB (bl (Utf8.encode r)) = true) (x1 : textsB (bl (Utf8.encode r)) = true) (n2 : nameB (bl (Utf8.encode r ++ Utf8.encode q)) = true) (x2 : textsB (bl (Utf8.encode r ++ Utf8.encode q)) = true) (zA : (Utf8.encode r).size + (Utf8.encode q).size ≤ 9223372036854775807) (z1 : Hid ((Utf8.encode r).size < 140737488355328)) (z2 : Hid ((Utf8.encode r ++ Utf8.encode q).size < 140737488355328)) : Calls Tryd.prog 6 #[.int .i32 r, .int .i32 q] w fun e w' => e = .returned (.bool true) ∧ Fr [] w w' := by
  have g := Fr.refl [] w
  go_enter Tryd.func6, Tryd.ntmps6
  go_wp2_with (first
    | (go_at_call 14; refine (awake_any _ (HL.out.kept g)).mono ?_; rintro e w5 ⟨rfl, f5⟩; replace g := g.trans f5; clear f5)
    | (go_at_call 8; refine (char_any _ (HL.out.kept g).spans _).mono ?_; rintro e w5 ⟨rfl, f5⟩; replace g := g.trans f5; clear f5)
    | (go_at_call 10; refine (nameStart_any _ (HL.out.kept g).spans _).mono ?_; rintro e w5 ⟨rfl, f5⟩; replace g := g.trans f5; clear f5)
    | (go_at_call 12; refine (nameChar_any _ (HL.out.kept g).spans _).mono ?_; rintro e w5 ⟨rfl, f5⟩; replace g := g.trans f5; clear f5)
    | (go_at_call 15; refine (name_any _ (HL.out.kept g) _).mono ?_; rintro e w5 ⟨rfl, f5⟩; replace g := g.trans f5; clear f5)
    | (go_at_call 17; refine (texts_any _ (HL.out.kept g) _ (by first | exact z1.out | exact z2.out)).mono ?_; rintro e w5 ⟨rfl, f5⟩; replace g := g.trans f5; clear f5))
  go_ret
  exact ⟨rfl, g⟩
set_option maxHeartbeats 4000000 in
set_option maxRecDepth 100000 in
theorem within_g1011 (w : World) (HL : Hid (LaidC w)) (r q : Int) (e1 : decide (r < 0) = false) (e2 : decide (1114111 < r) = false) (e3 : decide (55296 ≤ r) = true) (e4 : decide (r ≤ 57343) = false) (d1 : decide (q < 0) = false) (d2 : decide (1114111 < q) = false) (d3 : decide (55296 ≤ q) = true) (d4 : decide (q ≤ 57343) = false) (s1 : nst r = true) (c1 : nch r = true) (t1 : txt r = true) (c2 : nch q = false) (t2 : txt q = true) (n1 : nameB (bl (Utf8.encode r)) = true) (x1 : textsB (bl (Utf8.encode r)) = true) (n2 : nameB (bl (Utf8.encode r ++ Utf8.encode q)) = false) (x2 : textsB (bl (Utf8.encode r ++ Utf8.encode q)) = true) (zA : (Utf8.encode r).size + (Utf8.encode q).size ≤ 9223372036854775807) (z1 : Hid ((Utf8.encode r).size < 140737488355328)) (z2 : Hid ((Utf8.encode r ++ Utf8.encode q).size < 140737488355328)) : Calls Tryd.prog 6 #[.int .i32 r, .int .i32 q] w fun e w' => e = .returned (.bool true) ∧ Fr [] w w' := by
  have g := Fr.refl [] w
  go_enter Tryd.func6, Tryd.ntmps6
  go_wp2_with (first
    | (go_at_call 14; refine (awake_any _ (HL.out.kept g)).mono ?_; rintro e w5 ⟨rfl, f5⟩; replace g := g.trans f5; clear f5)
    | (go_at_call 8; refine (char_any _ (HL.out.kept g).spans _).mono ?_; rintro e w5 ⟨rfl, f5⟩; replace g := g.trans f5; clear f5)
    | (go_at_call 10; refine (nameStart_any _ (HL.out.kept g).spans _).mono ?_; rintro e w5 ⟨rfl, f5⟩; replace g := g.trans f5; clear f5)
    | (go_at_call 12; refine (nameChar_any _ (HL.out.kept g).spans _).mono ?_; rintro e w5 ⟨rfl, f5⟩; replace g := g.trans f5; clear f5)
    | (go_at_call 15; refine (name_any _ (HL.out.kept g) _).mono ?_; rintro e w5 ⟨rfl, f5⟩; replace g := g.trans f5; clear f5)
    | (go_at_call 17; refine (texts_any _ (HL.out.kept g) _ (by first | exact z1.out | exact z2.out)).mono ?_; rintro e w5 ⟨rfl, f5⟩; replace g := g.trans f5; clear f5))
  go_ret
  exact ⟨rfl, g⟩
set_option maxHeartbeats 4000000 in
set_option maxRecDepth 100000 in
theorem within_g1012 (w : World) (HL : Hid (LaidC w)) (r q : Int) (e1 : decide (r < 0) = false) (e2 : decide (1114111 < r) = false) (e3 : decide (55296 ≤ r) = true) (e4 : decide (r ≤ 57343) = false) (d1 : decide (q < 0) = false) (d2 : decide (1114111 < q) = false) (d3 : decide (55296 ≤ q) = true) (d4 : decide (q ≤ 57343) = false) (s1 : nst r = true) (c1 : nch r = true) (t1 : txt r = true) (c2 : nch q = false) (t2 : txt q = false) (n1 : nameB (bl (Utf8.encode r)) = true) (x1 : textsB (bl (Utf8.encode r)) = true) (n2 : nameB (bl (Utf8.encode r ++ Utf8.encode q)) = false) (x2 : textsB (bl (Utf8.encode r ++ Utf8.encode q)) = false) (zA : (Utf8.encode r).size + (Utf8.encode q).size ≤ 9223372036854775807) (z1 : Hid ((Utf8.encode r).size < 140737488355328)) (z2 : Hid ((Utf8.encode r ++ Utf8.encode q).size < 140737488355328)) : Calls Tryd.prog 6 #[.int .i32 r, .int .i32 q] w fun e w' => e = .returned (.bool true) ∧ Fr [] w w' := by
  have g := Fr.refl [] w
  go_enter Tryd.func6, Tryd.ntmps6
  go_wp2_with (first
    | (go_at_call 14; refine (awake_any _ (HL.out.kept g)).mono ?_; rintro e w5 ⟨rfl, f5⟩; replace g := g.trans f5; clear f5)
    | (go_at_call 8; refine (char_any _ (HL.out.kept g).spans _).mono ?_; rintro e w5 ⟨rfl, f5⟩; replace g := g.trans f5; clear f5)
    | (go_at_call 10; refine (nameStart_any _ (HL.out.kept g).spans _).mono ?_; rintro e w5 ⟨rfl, f5⟩; replace g := g.trans f5; clear f5)
    | (go_at_call 12; refine (nameChar_any _ (HL.out.kept g).spans _).mono ?_; rintro e w5 ⟨rfl, f5⟩; replace g := g.trans f5; clear f5)
    | (go_at_call 15; refine (name_any _ (HL.out.kept g) _).mono ?_; rintro e w5 ⟨rfl, f5⟩; replace g := g.trans f5; clear f5)
    | (go_at_call 17; refine (texts_any _ (HL.out.kept g) _ (by first | exact z1.out | exact z2.out)).mono ?_; rintro e w5 ⟨rfl, f5⟩; replace g := g.trans f5; clear f5))
  go_ret
  exact ⟨rfl, g⟩
set_option maxHeartbeats 4000000 in
set_option maxRecDepth 100000 in
theorem within_q110 (w : World) (HL : Hid (LaidC w)) (r q : Int) (e1 : decide (r < 0) = false) (e2 : decide (1114111 < r) = false) (e3 : decide (55296 ≤ r) = true) (e4 : decide (r ≤ 57343) = false) (d1 : decide (q < 0) = true) (s1 : nst r = false) (c1 : nch r = true) (t1 : txt r = true) (t2 : txt q = false) : Calls Tryd.prog 6 #[.int .i32 r, .int .i32 q] w fun e w' => e = .returned (.bool true) ∧ Fr [] w w' := by
  have g := Fr.refl [] w
  go_enter Tryd.func6, Tryd.ntmps6
  go_wp2_with (first
    | (go_at_call 14; refine (awake_any _ (HL.out.kept g)).mono ?_; rintro e w5 ⟨rfl, f5⟩; replace g := g.trans f5; clear f5)
    | (go_at_call 8; refine (char_any _ (HL.out.kept g).spans _).mono ?_; rintro e w5 ⟨rfl, f5⟩; replace g := g.trans f5; clear f5)
    | (go_at_call 10; refine (nameStart_any _ (HL.out.kept g).spans _).mono ?_; rintro e w5 ⟨rfl, f5⟩; replace g := g.trans f5; clear f5)
    | (go_at_call 12; refine (nameChar_any _ (HL.out.kept g).spans _).mono ?_; rintro e w5 ⟨rfl, f5⟩; replace g := g.trans f5; clear f5)
    | (go_at_call 15; refine (name_any _ (HL.out.kept g) _).mono ?_; rintro e w5 ⟨rfl, f5⟩; replace g := g.trans f5; clear f5)
    | (go_at_call 17; refine (texts_any _ (HL.out.kept g) _ (by omega)).mono ?_; rintro e w5 ⟨rfl, f5⟩; replace g := g.trans f5; clear f5))
  go_ret
  exact ⟨rfl, g⟩
set_option maxHeartbeats 4000000 in
set_option maxRecDepth 100000 in
theorem within_q111 (w : World) (HL : Hid (LaidC w)) (r q : Int) (e1 : decide (r < 0) = false) (e2 : decide (1114111 < r) = false) (e3 : decide (55296 ≤ r) = true) (e4 : decide (r ≤ 57343) = false) (d1 : decide (q < 0) = false) (d2 : decide (1114111 < q) = true) (s1 : nst r = false) (c1 : nch r = true) (t1 : txt r = true) (t2 : txt q = false) : Calls Tryd.prog 6 #[.int .i32 r, .int .i32 q] w fun e w' => e = .returned (.bool true) ∧ Fr [] w w' := by
  have g := Fr.refl [] w
  go_enter Tryd.func6, Tryd.ntmps6
  go_wp2_with (first
    | (go_at_call 14; refine (awake_any _ (HL.out.kept g)).mono ?_; rintro e w5 ⟨rfl, f5⟩; replace g := g.trans f5; clear f5)
    | (go_at_call 8; refine (char_any _ (HL.out.kept g).spans _).mono ?_; rintro e w5 ⟨rfl, f5⟩; replace g := g.trans f5; clear f5)
    | (go_at_call 10; refine (nameStart_any _ (HL.out.kept g).spans _).mono ?_; rintro e w5 ⟨rfl, f5⟩; replace g := g.trans f5; clear f5)
    | (go_at_call 12; refine (nameChar_any _ (HL.out.kept g).spans _).mono ?_; rintro e w5 ⟨rfl, f5⟩; replace g := g.trans f5; clear f5)
    | (go_at_call 15; refine (name_any _ (HL.out.kept g) _).mono ?_; rintro e w5 ⟨rfl, f5⟩; replace g := g.trans f5; clear f5)
    | (go_at_call 17; refine (texts_any _ (HL.out.kept g) _ (by omega)).mono ?_; rintro e w5 ⟨rfl, f5⟩; replace g := g.trans f5; clear f5))
  go_ret
  exact ⟨rfl, g⟩
set_option maxHeartbeats 4000000 in
set_option maxRecDepth 100000 in
theorem within_q112 (w : World) (HL : Hid (LaidC w)) (r q : Int) (e1 : decide (r < 0) = false) (e2 : decide (1114111 < r) = false) (e3 : decide (55296 ≤ r) = true) (e4 : decide (r ≤ 57343) = false) (d1 : decide (q < 0) = false) (d2 : decide (1114111 < q) = false) (d3 : decide (55296 ≤ q) = true) (d4 : decide (q ≤ 57343) = true) (s1 : nst r = false) (c1 : nch r = true) (t1 : txt r = true) (t2 : txt q = false) : Calls Tryd.prog 6 #[.int .i32 r, .int .i32 q] w fun e w' => e = .returned (.bool true) ∧ Fr [] w w' := by
  have g := Fr.refl [] w
  go_enter Tryd.func6, Tryd.ntmps6
  go_wp2_with (first
    | (go_at_call 14; refine (awake_any _ (HL.out.kept g)).mono ?_; rintro e w5 ⟨rfl, f5⟩; replace g := g.trans f5; clear f5)
    | (go_at_call 8; refine (char_any _ (HL.out.kept g).spans _).mono ?_; rintro e w5 ⟨rfl, f5⟩; replace g := g.trans f5; clear f5)
    | (go_at_call 10; refine (nameStart_any _ (HL.out.kept g).spans _).mono ?_; rintro e w5 ⟨rfl, f5⟩; replace g := g.trans f5; clear f5)
    | (go_at_call 12; refine (nameChar_any _ (HL.out.kept g).spans _).mono ?_; rintro e w5 ⟨rfl, f5⟩; replace g := g.trans f5; clear f5)
    | (go_at_call 15; refine (name_any _ (HL.out.kept g) _).mono ?_; rintro e w5 ⟨rfl, f5⟩; replace g := g.trans f5; clear f5)
    | (go_at_call 17; refine (texts_any _ (HL.out.kept g) _ (by omega)).mono ?_; rintro e w5 ⟨rfl, f5⟩; replace g := g.trans f5; clear f5))
  go_ret
  exact ⟨rfl, g⟩
set_option maxHeartbeats 4000000 in
set_option maxRecDepth 100000 in
theorem within_g1100 (w : World) (HL : Hid (LaidC w)) (r q : Int) (e1 : decide (r < 0) = false) (e2 : decide (1114111 < r) = false) (e3 : decide (55296 ≤ r) = true) (e4 : decide (r ≤ 57343) = false) (d1 : decide (q < 0) = false) (d2 : decide (1114111 < q) = false) (d3 : decide (55296 ≤ q) = false) (s1 : nst r = false) (c1 : nch r = true) (t1 : txt r = true) (c2 : nch q = true) (t2 : txt q = true) (n1 : nameB (bl (Utf8.encode r)) = false) (x1 : textsB (bl (Utf8.encode r)) = true) (n2 : nameB (bl (Utf8.encode r ++ Utf8.encode q)) = false) (x2 : textsB (bl (Utf8.encode r ++ Utf8.encode q)) = true) (zA : (Utf8.encode r).size + (Utf8.encode q).size ≤ 9223372036854775807) (z1 : Hid ((Utf8.encode r).size < 140737488355328)) (z2 : Hid ((Utf8.encode r ++ Utf8.encode q).size < 140737488355328)) : Calls Tryd.prog 6 #[.int .i32 r, .int .i32 q] w fun e w' => e = .returned (.bool true) ∧ Fr [] w w' := by
  have g := Fr.refl [] w
  go_enter Tryd.func6, Tryd.ntmps6
  go_wp2_with (first
    | (go_at_call 14; refine (awake_any _ (HL.out.kept g)).mono ?_; rintro e w5 ⟨rfl, f5⟩; replace g := g.trans f5; clear f5)
    | (go_at_call 8; refine (char_any _ (HL.out.kept g).spans _).mono ?_; rintro e w5 ⟨rfl, f5⟩; replace g := g.trans f5; clear f5)
    | (go_at_call 10; refine (nameStart_any _ (HL.out.kept g).spans _).mono ?_; rintro e w5 ⟨rfl, f5⟩; replace g := g.trans f5; clear f5)
    | (go_at_call 12; refine (nameChar_any _ (HL.out.kept g).spans _).mono ?_; rintro e w5 ⟨rfl, f5⟩; replace g := g.trans f5; clear f5)
    | (go_at_call 15; refine (name_any _ (HL.out.kept g) _).mono ?_; rintro e w5 ⟨rfl, f5⟩; replace g := g.trans f5; clear f5)
    | (go_at_call 17; refine (texts_any _ (HL.out.kept g) _ (by first | exact z1.out | exact z2.out)).mono ?_; rintro e w5 ⟨rfl, f5⟩; replace g := g.trans f5; clear f5))
  go_ret
  exact ⟨rfl, g⟩
set_option maxHeartbeats 4000000 in
set_option maxRecDepth 100000 in
theorem within_g1101 (w : World) (HL : Hid (LaidC w)) (r q : Int) (e1 : decide (r < 0) = false) (e2 : decide (1114111 < r) = false) (e3 : decide (55296 ≤ r) = true) (e4 : decide (r ≤ 57343) = false) (d1 : decide (q < 0) = false) (d2 : decide (1114111 < q) = false) (d3 : decide (55296 ≤ q) = false) (s1 : nst r = false) (c1 : nch r = true) (t1 : txt r = true) (c2 : nch q = false) (t2 : txt q = true) (n1 : nameB (bl (Utf8.encode r)) = false) (x1 : textsB (bl (Utf8.encode r)) = true) (n2 : nameB (bl (Utf8.encode r ++ Utf8.encode q)) = false) (x2 : textsB (bl (Utf8.encode r ++ Utf8.encode q)) = true) (zA : (Utf8.encode r).size + (Utf8.encode q).size ≤ 9223372036854775807) (z1 : Hid ((Utf8.encode r).size < 140737488355328)) (z2 : Hid ((Utf8.encode r ++ Utf8.encode q).size < 140737488355328)) : Calls Tryd.prog 6 #[.int .i32 r, .int .i32 q] w fun e w' => e = .returned (.bool true) ∧ Fr [] w w' := by
  have g := Fr.refl [] w
  go_enter Tryd.func6, Tryd.ntmps6
  go_wp2_with (first
    | (go_at_call 14; refine (awake_any _ (HL.out.kept g)).mono ?_; rintro e w5 ⟨rfl, f5⟩; replace g := g.trans f5; clear f5)
    | (go_at_call 8; refine (char_any _ (HL.out.kept g).spans _).mono ?_; rintro e w5 ⟨rfl, f5⟩; replace g := g.trans f5; clear f5)
    | (go_at_call 10; refine (nameStart_any _ (HL.out.kept g).spans _).mono ?_; rintro e w5 ⟨rfl, f5⟩; replace g := g.trans f5; clear f5)
    | (go_at_call 12; refine (nameChar_any _ (HL.out.kept g).spans _).mono ?_; rintro e w5 ⟨rfl, f5⟩; replace g := g.trans f5; clear f5)
    | (go_at_call 15; refine (name_any _ (HL.out.kept g) _).mono ?_; rintro e w5 ⟨rfl, f5⟩; replace g := g.trans f5; clear f5)
    | (go_at_call 17; refine (texts_any _ (HL.out.kept g) _ (by first | exact z1.out | exact z2.out)).mono ?_; rintro e w5 ⟨rfl, f5⟩; replace g := g.trans f5; clear f5))
  go_ret
  exact ⟨rfl, g⟩
set_option maxHeartbeats 4000000 in
set_option maxRecDepth 100000 in
theorem within_g1102 (w : World) (HL : Hid (LaidC w)) (r q : Int) (e1 : decide (r < 0) = false) (e2 : decide (1114111 < r) = false) (e3 : decide (55296 ≤ r) = true) (e4 : decide (r ≤ 57343) = false) (d1 : decide (q < 0) = false) (d2 : decide (1114111 < q) = false) (d3 : decide (55296 ≤ q) = false) (s1 : nst r = false) (c1 : nch r = true) (t1 : txt r = true) (c2 : nch q = false) (t2 : txt q = false) (n1 : nameB (bl (Utf8.encode r)) = false) (x1 : textsB (bl (Utf8.encode r)) = true) (n2 : nameB (bl (Utf8.encode r ++ Utf8.encode q)) = false) (x2 : textsB (bl (Utf8.encode r ++ Utf8.encode q)) = false) (zA : (Utf8.encode r).size + (Utf8.encode q).size ≤ 9223372036854775807) (z1 : Hid ((Utf8.encode r).size < 140737488355328)) (z2 : Hid ((Utf8.encode r ++ Utf8.encode q).size < 140737488355328)) : Calls Tryd.prog 6 #[.int .i32 r, .int .i32 q] w fun e w' => e = .returned (.bool true) ∧ Fr [] w w' := by
  have g := Fr.refl [] w
  go_enter Tryd.func6, Tryd.ntmps6
  go_wp2_with (first
    | (go_at_call 14; refine (awake_any _ (HL.out.kept g)).mono ?_; rintro e w5 ⟨rfl, f5⟩; replace g := g.trans f5; clear f5)
    | (go_at_call 8; refine (char_any _ (HL.out.kept g).spans _).mono ?_; rintro e w5 ⟨rfl, f5⟩; replace g := g.trans f5; clear f5)
    | (go_at_call 10; refine (nameStart_any _ (HL.out.kept g).spans _).mono ?_; rintro e w5 ⟨rfl, f5⟩; replace g := g.trans f5; clear f5)
    | (go_at_call 12; refine (nameChar_any _ (HL.out.kept g).spans _).mono ?_; rintro e w5 ⟨rfl, f5⟩; replace g := g.trans f5; clear f5)
    | (go_at_call 15; refine (name_any _ (HL.out.kept g) _).mono ?_; rintro e w5 ⟨rfl, f5⟩; replace g := g.trans f5; clear f5)
    | (go_at_call 17; refine (texts_any _ (HL.out.kept g) _ (by first | exact z1.out | exact z2.out)).mono ?_; rintro e w5 ⟨rfl, f5⟩; replace g := g.trans f5; clear f5))
  go_ret
  exact ⟨rfl, g⟩
set_option maxHeartbeats 4000000 in
set_option maxRecDepth 100000 in
theorem within_g1110 (w : World) (HL : Hid (LaidC w)) (r q : Int) (e1 : decide (r < 0) = false) (e2 : decide (1114111 < r) = false) (e3 : decide (55296 ≤ r) = true) (e4 : decide (r ≤ 57343) = false) (d1 : decide (q < 0) = false) (d2 : decide (1114111 < q) = false) (d3 : decide (55296 ≤ q) = true) (d4 : decide (q ≤ 57343) = false) (s1 : nst r = false) (c1 : nch r = true) (t1 : txt r = true) (c2 : nch q = true) (t2 : txt q = true) (n1 : nameB (bl (Utf8.encode r)) = false) (x1 : textsB (bl (Utf8.encode r)) = true) (n2 : nameB (bl (Utf8.encode r ++ Utf8.encode q)) = false) (x2 : textsB (bl (Utf8.encode r ++ Utf8.encode q)) = true) (zA : (Utf8.encode r).size + (Utf8.encode q).size ≤ 9223372036854775807) (z1 : Hid ((Utf8.encode r).size < 140737488355328)) (z2 : Hid ((Utf8.encode r ++ Utf8.encode q).size < 140737488355328)) : Calls Tryd.prog 6 #[.int .i32 r, .int .i32 q] w fun e w' => e = .returned (.bool true) ∧ Fr [] w w' := by
  have g := Fr.refl [] w
  go_enter Tryd.func6, Tryd.ntmps6
  go_wp2_with (first
    | (go_at_call 14; refine (awake_any _ (HL.out.kept g)).mono ?_; rintro e w5 ⟨rfl, f5⟩; replace g := g.trans f5; clear f5)
    | (go_at_call 8; refine (char_any _ (HL.out.kept g).spans _).mono ?_; rintro e w5 ⟨rfl, f5⟩; replace g := g.trans f5; clear f5)
    | (go_at_call 10; refine (nameStart_any _ (HL.out.kept g).spans _).mono ?_; rintro e w5 ⟨rfl, f5⟩; replace g := g.trans f5; clear f5)
    | (go_at_call 12; refine (nameChar_any _ (HL.out.kept g).spans _).mono ?_; rintro e w5 ⟨rfl, f5⟩; replace g := g.trans f5; clear f5)
    | (go_at_call 15; refine (name_any _ (HL.out.kept g) _).mono ?_; rintro e w5 ⟨rfl, f5⟩; replace g := g.trans f5; clear f5)
    | (go_at_call 17; refine (texts_any _ (HL.out.kept g) _ (by first | exact z1.out | exact z2.out)).mono ?_; rintro e w5 ⟨rfl, f5⟩; replace g := g.trans f5; clear f5))
  go_ret
  exact ⟨rfl, g⟩
set_option maxHeartbeats 4000000 in
set_option maxRecDepth 100000 in
theorem within_g1111 (w : World) (HL : Hid (LaidC w)) (r q : Int) (e1 : decide (r < 0) = false) (e2 : decide (1114111 < r) = false) (e3 : decide (55296 ≤ r) = true) (e4 : decide (r ≤ 57343) = false) (d1 : decide (q < 0) = false) (d2 : decide (1114111 < q) = false) (d3 : decide (55296 ≤ q) = true) (d4 : decide (q ≤ 57343) = false) (s1 : nst r = false) (c1 : nch r = true) (t1 : txt r = true) (c2 : nch q = false) (t2 : txt q = true) (n1 : nameB (bl (Utf8.encode r)) = false) (x1 : textsB (bl (Utf8.encode r)) = true) (n2 : nameB (bl (Utf8.encode r ++ Utf8.encode q)) = false) (x2 : textsB (bl (Utf8.encode r ++ Utf8.encode q)) = true) (zA : (Utf8.encode r).size + (Utf8.encode q).size ≤ 9223372036854775807) (z1 : Hid ((Utf8.encode r).size < 140737488355328)) (z2 : Hid ((Utf8.encode r ++ Utf8.encode q).size < 140737488355328)) : Calls Tryd.prog 6 #[.int .i32 r, .int .i32 q] w fun e w' => e = .returned (.bool true) ∧ Fr [] w w' := by
  have g := Fr.refl [] w
  go_enter Tryd.func6, Tryd.ntmps6
  go_wp2_with (first
    | (go_at_call 14; refine (awake_any _ (HL.out.kept g)).mono ?_; rintro e w5 ⟨rfl, f5⟩; replace g := g.trans f5; clear f5)
    | (go_at_call 8; refine (char_any _ (HL.out.kept g).spans _).mono ?_; rintro e w5 ⟨rfl, f5⟩; replace g := g.trans f5; clear f5)
    | (go_at_call 10; refine (nameStart_any _ (HL.out.kept g).spans _).mono ?_; rintro e w5 ⟨rfl, f5⟩; replace g := g.trans f5; clear f5)
    | (go_at_call 12; refine (nameChar_any _ (HL.out.kept g).spans _).mono ?_; rintro e w5 ⟨rfl, f5⟩; replace g := g.trans f5; clear f5)
    | (go_at_call 15; refine (name_any _ (HL.out.kept g) _).mono ?_; rintro e w5 ⟨rfl, f5⟩; replace g := g.trans f5; clear f5)
    | (go_at_call 17; refine (texts_any _ (HL.out.kept g) _ (by first | exact z1.out | exact z2.out)).mono ?_; rintro e w5 ⟨rfl, f5⟩; replace g := g.trans f5; clear f5))
  go_ret
  exact ⟨rfl, g⟩
set_option maxHeartbeats 4000000 in
set_option maxRecDepth 100000 in
theorem within_g1112 (w : World) (HL : Hid (LaidC w)) (r q : Int) (e1 : decide (r < 0) = false) (e2 : decide (1114111 < r) = false) (e3 : decide (55296 ≤ r) = true) (e4 : decide (r ≤ 57343) = false) (d1 : decide (q < 0) = false) (d2 : decide (1114111 < q) = false) (d3 : decide (55296 ≤ q) = true) (d4 : decide (q ≤ 57343) = false) (s1 : nst r = false) (c1 : nch r = true) (t1 : txt r = true) (c2 : nch q = false) (t2 : txt q = false) (n1 : nameB (bl (Utf8.encode r)) = false) (x1 : textsB (bl (Utf8.encode r)) = true) (n2 : nameB (bl (Utf8.encode r ++ Utf8.encode q)) = false) (x2 : textsB (bl (Utf8.encode r ++ Utf8.encode q)) = false) (zA : (Utf8.encode r).size + (Utf8.encode q).size ≤ 9223372036854775807) (z1 : Hid ((Utf8.encode r).size < 140737488355328)) (z2 : Hid ((Utf8.encode r ++ Utf8.encode q).size < 140737488355328)) : Calls Tryd.prog 6 #[.int .i32 r, .int .i32 q] w fun e w' => e = .returned (.bool true) ∧ Fr [] w w' := by
  have g := Fr.refl [] w
  go_enter Tryd.func6, Tryd.ntmps6
  go_wp2_with (first
    | (go_at_call 14; refine (awake_any _ (HL.out.kept g)).mono ?_; rintro e w5 ⟨rfl, f5⟩; replace g := g.trans f5; clear f5)
    | (go_at_call 8; refine (char_any _ (HL.out.kept g).spans _).mono ?_; rintro e w5 ⟨rfl, f5⟩; replace g := g.trans f5; clear f5)
    | (go_at_call 10; refine (nameStart_any _ (HL.out.kept g).spans _).mono ?_; rintro e w5 ⟨rfl, f5⟩; replace g := g.trans f5; clear f5)
    | (go_at_call 12; refine (nameChar_any _ (HL.out.kept g).spans _).mono ?_; rintro e w5 ⟨rfl, f5⟩; replace g := g.trans f5; clear f5)
    | (go_at_call 15; refine (name_any _ (HL.out.kept g) _).mono ?_; rintro e w5 ⟨rfl, f5⟩; replace g := g.trans f5; clear f5)
    | (go_at_call 17; refine (texts_any _ (HL.out.kept g) _ (by first | exact z1.out | exact z2.out)).mono ?_; rintro e w5 ⟨rfl, f5⟩; replace g := g.trans f5; clear f5))
  go_ret
  exact ⟨rfl, g⟩
set_option maxHeartbeats 4000000 in
set_option maxRecDepth 100000 in
theorem within_q120 (w : World) (HL : Hid (LaidC w)) (r q : Int) (e1 : decide (r < 0) = false) (e2 : decide (1114111 < r) = false) (e3 : decide (55296 ≤ r) = true) (e4 : decide (r ≤ 57343) = false) (d1 : decide (q < 0) = true) (s1 : nst r = false) (c1 : nch r = false) (t1 : txt r = true) (t2 : txt q = false) : Calls Tryd.prog 6 #[.int .i32 r, .int .i32 q] w fun e w' => e = .returned (.bool true) ∧ Fr [] w w' := by
  have g := Fr.refl [] w
  go_enter Tryd.func6, Tryd.ntmps6
  go_wp2_with (first
    | (go_at_call 14; refine (awake_any _ (HL.out.kept g)).mono ?_; rintro e w5 ⟨rfl, f5⟩; replace g := g.trans f5; clear f5)
    | (go_at_call 8; refine (char_any _ (HL.out.kept g).spans _).mono ?_; rintro e w5 ⟨rfl, f5⟩; replace g := g.trans f5; clear f5)
    | (go_at_call 10; refine (nameStart_any _ (HL.out.kept g).spans _).mono ?_; rintro e w5 ⟨rfl, f5⟩; replace g := g.trans f5; clear f5)
    | (go_at_call 12; refine (nameChar_any _ (HL.out.kept g).spans _).mono ?_; rintro e w5 ⟨rfl, f5⟩; replace g := g.trans f5; clear f5)
    | (go_at_call 15; refine (name_any _ (HL.out.kept g) _).mono ?_; rintro e w5 ⟨rfl, f5⟩; replace g := g.trans f5; clear f5)
    | (go_at_call 17; refine (texts_any _ (HL.out.kept g) _ (by omega)).mono ?_; rintro e w5 ⟨rfl, f5⟩; replace g := g.trans f5; clear f5))
  go_ret
  exact ⟨rfl, g⟩
set_option maxHeartbeats 4000000 in
set_option maxRecDepth 100000 in
theorem within_q121 (w : World) (HL : Hid (LaidC w)) (r q : Int) (e1 : decide (r < 0) = false) (e2 : decide (1114111 < r) = false) (e3 : decide (55296 ≤ r) = true) (e4 : decide (r ≤ 57343) = false) (d1 : decide (q < 0) = false) (d2 : decide (1114111 < q) = true) (s1 : nst r = false) (c1 : nch r = false) (t1 : txt r = true) (t2 : txt q = false) : Calls Tryd.prog 6 #[.int .i32 r, .int .i32 q] w fun e w' => e = .returned (.bool true) ∧ Fr [] w w' := by
  have g := Fr.refl [] w
  go_enter Tryd.func6, Tryd.ntmps6
  go_wp2_with (first
    | (go_at_call 14; refine (awake_any _ (HL.out.kept g)).mono ?_; rintro e w5 ⟨rfl, f5⟩; replace g := g.trans f5; clear f5)
    | (go_at_call 8; refine (char_any _ (HL.out.kept g).spans _).mono ?_; rintro e w5 ⟨rfl, f5⟩; replace g := g.trans f5; clear f5)
    | (go_at_call 10; refine (nameStart_any _ (HL.out.kept g).spans _).mono ?_; rintro e w5 ⟨rfl, f5⟩; replace g := g.trans f5; clear f5)
    | (go_at_call 12; refine (nameChar_any _ (HL.out.kept g).spans _).mono ?_; rintro e w5 ⟨rfl, f5⟩; replace g := g.trans f5; clear f5)
    | (go_at_call 15; refine (name_any _ (HL.out.kept g) _).mono ?_; rintro e w5 ⟨rfl, f5⟩; replace g := g.trans f5; clear f5)
    | (go_at_call 17; refine (texts_any _ (HL.out.kept g) _ (by omega)).mono ?_; rintro e w5 ⟨rfl, f5⟩; replace g := g.trans f5; clear f5))
  go_ret
  exact ⟨rfl, g⟩
set_option maxHeartbeats 4000000 in
set_option maxRecDepth 100000 in
theorem within_q122 (w : World) (HL : Hid (LaidC w)) (r q : Int) (e1 : decide (r < 0) = false) (e2 : decide (1114111 < r) = false) (e3 : decide (55296 ≤ r) = true) (e4 : decide (r ≤ 57343) = false) (d1 : decide (q < 0) = false) (d2 : decide (1114111 < q) = false) (d3 : decide (55296 ≤ q) = true) (d4 : decide (q ≤ 57343) = true) (s1 : nst r = false) (c1 : nch r = false) (t1 : txt r = true) (t2 : txt q = false) : Calls Tryd.prog 6 #[.int .i32 r, .int .i32 q] w fun e w' => e = .returned (.bool true) ∧ Fr [] w w' := by
  have g := Fr.refl [] w
  go_enter Tryd.func6, Tryd.ntmps6
  go_wp2_with (first
    | (go_at_call 14; refine (awake_any _ (HL.out.kept g)).mono ?_; rintro e w5 ⟨rfl, f5⟩; replace g := g.trans f5; clear f5)
    | (go_at_call 8; refine (char_any _ (HL.out.kept g).spans _).mono ?_; rintro e w5 ⟨rfl, f5⟩; replace g := g.trans f5; clear f5)
    | (go_at_call 10; refine (nameStart_any _ (HL.out.kept g).spans _).mono ?_; rintro e w5 ⟨rfl, f5⟩; replace g := g.trans f5; clear f5)
    | (go_at_call 12; refine (nameChar_any _ (HL.out.kept g).spans _).mono ?_; rintro e w5 ⟨rfl, f5⟩; replace g := g.trans f5; clear f5)
    | (go_at_call 15; refine (name_any _ (HL.out.kept g) _).mono ?_; rintro e w5 ⟨rfl, f5⟩; replace g := g.trans f5; clear f5)
    | (go_at_call 17; refine (texts_any _ (HL.out.kept g) _ (by omega)).mono ?_; rintro e w5 ⟨rfl, f5⟩; replace g := g.trans f5; clear f5))
  go_ret
  exact ⟨rfl, g⟩
set_option maxHeartbeats 4000000 in
set_option maxRecDepth 100000 in
theorem within_g1200 (w : World) (HL : Hid (LaidC w)) (r q : Int) (e1 : decide (r < 0) = false) (e2 : decide (1114111 < r) = false) (e3 : decide (55296 ≤ r) = true) (e4 : decide (r ≤ 57343) = false) (d1 : decide (q < 0) = false) (d2 : decide (1114111 < q) = false) (d3 : decide (55296 ≤ q) = false) (s1 : nst r = false) (c1 : nch r = false) (t1 : txt r = true) (c2 : nch q = true) (t2 : txt q = true) (n1 : nameB (bl (Utf8.encode r)) = false) (x1 : textsB (bl (Utf8.encode r)) = true) (n2 : nameB (bl (Utf8.encode r ++ Utf8.encode q)) = false) (x2 : textsB (bl (Utf8.encode r ++ Utf8.encode q)) = true) (zA : (Utf8.encode r).size + (Utf8.encode q).size ≤ 9223372036854775807) (z1 : Hid ((Utf8.encode r).size < 140737488355328)) (z2 : Hid ((Utf8.encode r ++ Utf8.encode q).size < 140737488355328)) : Calls Tryd.prog 6 #[.int .i32 r, .int .i32 q] w fun e w' => e = .returned (.bool true) ∧ Fr [] w w' := by
  have g := Fr.refl [] w
  go_enter Tryd.func6, Tryd.ntmps6
  go_wp2_with (first
    | (go_at_call 14; refine (awake_any _ (HL.out.kept g)).mono ?_; rintro e w5 ⟨rfl, f5⟩; replace g := g.trans f5; clear f5)
    | (go_at_call 8; refine (char_any _ (HL.out.kept g).spans _).mono ?_; rintro e w5 ⟨rfl, f5⟩; replace g := g.trans f5; clear f5)
    | (go_at_call 10; refine (nameStart_any _ (HL.out.kept g).spans _).mono ?_; rintro e w5 ⟨rfl, f5⟩; replace g := g.trans f5; clear f5)
    | (go_at_call 12; refine (nameChar_any _ (HL.out.kept g).spans _).mono ?_; rintro e w5 ⟨rfl, f5⟩; replace g := g.trans f5; clear f5)
    | (go_at_call 15; refine (name_any _ (HL.out.kept g) _).mono ?_; rintro e w5 ⟨rfl, f5⟩; replace g := g.trans f5; clear f5)
    | (go_at_call 17; refine (texts_any _ (HL.out.kept g) _ (by first | exact z1.out | exact z2.out)).mono ?_; rintro e w5 ⟨rfl, f5⟩; replace g := g.trans f5; clear f5))
  go_ret
  exact ⟨rfl, g⟩
set_option maxHeartbeats 4000000 in
set_option maxRecDepth 100000 in
theorem within_g1201 (w : World) (HL : Hid (LaidC w)) (r q : Int) (e1 : decide (r < 0) = false) (e2 : decide (1114111 < r) = false) (e3 : decide (55296 ≤ r) = true) (e4 : decide (r ≤ 57343) = false) (d1 : decide (q < 0) = false) (d2 : decide (1114111 < q) = false) (d3 : decide (55296 ≤ q) = false) (s1 : nst r = false) (c1 : nch r = false) (t1 : txt r = true) (c2 : nch q = false) (t2 : txt q = true) (n1 : nameB (bl (Utf8.encode r)) = false) (x1 : textsB (bl (Utf8.encode r)) = true) (n2 : nameB (bl (Utf8.encode r ++ Utf8.encode q)) = false) (x2 : textsB (bl (Utf8.encode r ++ Utf8.encode q)) = true) (zA : (Utf8.encode r).size + (Utf8.encode q).size ≤ 9223372036854775807) (z1 : Hid ((Utf8.encode r).size < 140737488355328)) (z2 : Hid ((Utf8.encode r ++ Utf8.encode q).size < 140737488355328)) : Calls Tryd.prog 6 #[.int .i32 r, .int .i32 q] w fun e w' => e = .returned (.bool true) ∧ Fr [] w w' := by
  have g := Fr.refl [] w
  go_enter Tryd.func6, Tryd.ntmps6
  go_wp2_with (first
    | (go_at_call 14; refine (awake_any _ (HL.out.kept g)).mono ?_; rintro e w5 ⟨rfl, f5⟩; replace g := g.trans f5; clear f5)
    | (go_at_call 8; refine (char_any _ (HL.out.kept g).spans _).mono ?_; rintro e w5 ⟨rfl, f5⟩; replace g := g.trans f5; clear f5)
    | (go_at_call 10; refine (nameStart_any _ (HL.out.kept g).spans _).mono ?_; rintro e w5 ⟨rfl, f5⟩; replace g := g.trans f5; clear f5)
    | (go_at_call 12; refine (nameChar_any _ (HL.out.kept g).spans _).mono ?_; rintro e w5 ⟨rfl, f5⟩; replace g := g.trans f5; clear f5)
    | (go_at_call 15; refine (name_any _ (HL.out.kept g) _).mono ?_; rintro e w5 ⟨rfl, f5⟩; replace g := g.trans f5; clear f5)
    | (go_at_call 17; refine (texts_any _ (HL.out.kept g) _ (by first | exact z1.out | exact z2.out)).mono ?_; rintro e w5 ⟨rfl, f5⟩; replace g := g.trans f5; clear f5))
  go_ret
  exact ⟨rfl, g⟩
set_option maxHeartbeats 4000000 in
set_option maxRecDepth 100000 in
theorem within_g1202 (w : World) (HL : Hid (LaidC w)) (r q : Int) (e1 : decide (r < 0) = false) (e2 : decide (1114111 < r) = false) (e3 : decide (55296 ≤ r) = true) (e4 : decide (r ≤ 57343) = false) (d1 : decide (q < 0) = false) (d2 : decide (1114111 < q) = false) (d3 : decide (55296 ≤ q) = false) (s1 : nst r = false) (c1 : nch r = false) (t1 : txt r = true) (c2 : nch q = false) (t2 : txt q = false) (n1 : nameB (bl (Utf8.encode r)) = false) (x1 : textsB (bl (Utf8.encode r)) = true) (n2 : nameB (bl (Utf8.encode r ++ Utf8.encode q)) = false) (x2 : textsB (bl (Utf8.encode r ++ Utf8.encode q)) = false) (zA : (Utf8.encode r).size + (Utf8.encode q).size ≤ 9223372036854775807) (z1 : Hid ((Utf8.encode r).size < 140737488355328)) (z2 : Hid ((Utf8.encode r ++ Utf8.encode q).size < 140737488355328)) : Calls Tryd.prog 6 #[.int .i32 r, .int .i32 q] w fun e w' => e = .returned (.bool true) ∧ Fr [] w w' := by
  have g := Fr.refl [] w
  go_enter Tryd.func6, Tryd.ntmps6
  go_wp2_with (first
    | (go_at_call 14; refine (awake_any _ (HL.out.kept g)).mono ?_; rintro e w5 ⟨rfl, f5⟩; replace g := g.trans f5; clear f5)
    | (go_at_call 8; refine (char_any _ (HL.out.kept g).spans _).mono ?_; rintro e w5 ⟨rfl, f5⟩; replace g := g.trans f5; clear f5)
    | (go_at_call 10; refine (nameStart_any _ (HL.out.kept g).spans _).mono ?_; rintro e w5 ⟨rfl, f5⟩; replace g := g.trans f5; clear f5)
    | (go_at_call 12; refine (nameChar_any _ (HL.out.kept g).spans _).mono ?_; rintro e w5 ⟨rfl, f5⟩; replace g := g.trans f5; clear f5)
    | (go_at_call 15; refine (name_any _ (HL.out.kept g) _).mono ?_; rintro e w5 ⟨rfl, f5⟩; replace g := g.trans f5; clear f5)
    | (go_at_call 17; refine (texts_any _ (HL.out.kept g) _ (by first | exact z1.out | exact z2.out)).mono ?_; rintro e w5 ⟨rfl, f5⟩; replace g := g.trans f5; clear f5))
  go_ret
  exact ⟨rfl, g⟩
set_option maxHeartbeats 4000000 in
set_option maxRecDepth 100000 in
theorem within_g1210 (w : World) (HL : Hid (LaidC w)) (r q : Int) (e1 : decide (r < 0) = false) (e2 : decide (1114111 < r) = false) (e3 : decide (55296 ≤ r) = true) (e4 : decide (r ≤ 57343) = false) (d1 : decide (q < 0) = false) (d2 : decide (1114111 < q) = false) (d3 : decide (55296 ≤ q) = true) (d4 : decide (q ≤ 57343) = false) (s1 : nst r = false) (c1 : nch r = false) (t1 : txt r = true) (c2 : nch q = true) (t2 : txt q = true) (n1 : nameB (bl (Utf8.encode r)) = false) (x1 : textsB (bl (Utf8.encode r)) = true) (n2 : nameB (bl (Utf8.encode r ++ Utf8.encode q)) = false) (x2 : textsB (bl (Utf8.encode r ++ Utf8.encode q)) = true) (zA : (Utf8.encode r).size + (Utf8.encode q).size ≤ 9223372036854775807) (z1 : Hid ((Utf8.encode r).size < 140737488355328)) (z2 : Hid ((Utf8.encode r ++ Utf8.encode q).size < 140737488355328)) : Calls Tryd.prog 6 #[.int .i32 r, .int .i32 q] w fun e w' => e = .returned (.bool true) ∧ Fr [] w w' := by
  have g := Fr.refl [] w
  go_enter Tryd.func6, Tryd.ntmps6
  go_wp2_with (first
    | (go_at_call 14; refine (awake_any _ (HL.out.kept g)).mono ?_; rintro e w5 ⟨rfl, f5⟩; replace g := g.trans f5; clear f5)
    | (go_at_call 8; refine (char_any _ (HL.out.kept g).spans _).mono ?_; rintro e w5 ⟨rfl, f5⟩; replace g := g.trans f5; clear f5)
    | (go_at_call 10; refine (nameStart_any _ (HL.out.kept g).spans _).mono ?_; rintro e w5 ⟨rfl, f5⟩; replace g := g.trans f5; clear f5)
    | (go_at_call 12; refine (nameChar_any _ (HL.out.kept g).spans _).mono ?_; rintro e w5 ⟨rfl, f5⟩; replace g := g.trans f5; clear f5)
    | (go_at_call 15; refine (name_any _ (HL.out.kept g) _).mono ?_; rintro e w5 ⟨rfl, f5⟩; replace g := g.trans f5; clear f5)
    | (go_at_call 17; refine (texts_any _ (HL.out.kept g) _ (by first | exact z1.out | exact z2.out)).mono ?_; rintro e w5 ⟨rfl, f5⟩; replace g := g.trans f5; clear f5))
  go_ret
  exact ⟨rfl, g⟩
set_option maxHeartbeats 4000000 in
set_option maxRecDepth 100000 in
theorem within_g1211 (w : World) (HL : Hid (LaidC w)) (r q : Int) (e1 : decide (r < 0) = false) (e2 : decide (1114111 < r) = false) (e3 : decide (55296 ≤ r) = true) (e4 : decide (r ≤ 57343) = false) (d1 : decide (q < 0) = false) (d2 : decide (1114111 < q) = false) (d3 : decide (55296 ≤ q) = true) (d4 : decide (q ≤ 57343) = false) (s1 : nst r = false) (c1 : nch r = false) (t1 : txt r = true) (c2 : nch q = false) (t2 : txt q = true) (n1 : nameB (bl (Utf8.encode r)) = false) (x1 : textsB (bl (Utf8.encode r)) = true) (n2 : nameB (bl (Utf8.encode r ++ Utf8.encode q)) = false) (x2 : textsB (bl (Utf8.encode r ++ Utf8.encode q)) = true) (zA : (Utf8.encode r).size + (Utf8.encode q).size ≤ 9223372036854775807) (z1 : Hid ((Utf8.encode r).size < 140737488355328)) (z2 : Hid ((Utf8.encode r ++ Utf8.encode q).size < 140737488355328)) : Calls Tryd.prog 6 #[.int .i32 r, .int .i32 q] w fun e w' => e = .returned (.bool true) ∧ Fr [] w w' := by
  have g := Fr.refl [] w
  go_enter Tryd.func6, Tryd.ntmps6
  go_wp2_with (first
    | (go_at_call 14; refine (awake_any _ (HL.out.kept g)).mono ?_; rintro e w5 ⟨rfl, f5⟩; replace g := g.trans f5; clear f5)
    | (go_at_call 8; refine (char_any _ (HL.out.kept g).spans _).mono ?_; rintro e w5 ⟨rfl, f5⟩; replace g := g.trans f5; clear f5)
    | (go_at_call 10; refine (nameStart_any _ (HL.out.kept g).spans _).mono ?_; rintro e w5 ⟨rfl, f5⟩; replace g := g.trans f5; clear f5)
    | (go_at_call 12; refine (nameChar_any _ (HL.out.kept g).spans _).mono ?_; rintro e w5 ⟨rfl, f5⟩; replace g := g.trans f5; clear f5)
    | (go_at_call 15; refine (name_any _ (HL.out.kept g) _).mono ?_; rintro e w5 ⟨rfl, f5⟩; replace g := g.trans f5; clear f5)
    | (go_at_call 17; refine (texts_any _ (HL.out.kept g) _ (by first | exact z1.out | exact z2.out)).mono ?_; rintro e w5 ⟨rfl, f5⟩; replace g := g.trans f5; clear f5))
  go_ret
  exact ⟨rfl, g⟩
set_option maxHeartbeats 4000000 in
set_option maxRecDepth 100000 in
theorem within_g1212 (w : World) (HL : Hid (LaidC w)) (r q : Int) (e1 : decide (r < 0) = false) (e2 : decide (1114111 < r) = false) (e3 : decide (55296 ≤ r) = true) (e4 : decide (r ≤ 57343) = false) (d1 : decide (q < 0) = false) (d2 : decide (1114111 < q) = false) (d3 : decide (55296 ≤ q) = true) (d4 : decide (q ≤ 57343) = false) (s1 : nst r = false) (c1 : nch r = false) (t1 : txt r = true) (c2 : nch q = false) (t2 : txt q = false) (n1 : nameB (bl (Utf8.encode r)) = false) (x1 : textsB (bl (Utf8.encode r)) = true) (n2 : nameB (bl (Utf8.encode r ++ Utf8.encode q)) = false) (x2 : textsB (bl (Utf8.encode r ++ Utf8.encode q)) = false) (zA : (Utf8.encode r).size + (Utf8.encode q).size ≤ 9223372036854775807) (z1 : Hid ((Utf8.encode r).size < 140737488355328)) (z2 : Hid ((Utf8.encode r ++ Utf8.encode q).size < 140737488355328)) : Calls Tryd.prog 6 #[.int .i32 r, .int .i32 q] w fun e w' => e = .returned (.bool true) ∧ Fr [] w w' := by
  have g := Fr.refl [] w
  go_enter Tryd.func6, Tryd.ntmps6
  go_wp2_with (first
    | (go_at_call 14; refine (awake_any _ (HL.out.kept g)).mono ?_; rintro e w5 ⟨rfl, f5⟩; replace g := g.trans f5; clear f5)
    | (go_at_call 8; refine (char_any _ (HL.out.kept g).spans _).mono ?_; rintro e w5 ⟨rfl, f5⟩; replace g := g.trans f5; clear f5)
    | (go_at_call 10; refine (nameStart_any _ (HL.out.kept g).spans _).mono ?_; rintro e w5 ⟨rfl, f5⟩; replace g := g.trans f5; clear f5)
    | (go_at_call 12; refine (nameChar_any _ (HL.out.kept g).spans _).mono ?_; rintro e w5 ⟨rfl, f5⟩; replace g := g.trans f5; clear f5)
    | (go_at_call 15; refine (name_any _ (HL.out.kept g) _).mono ?_; rintro e w5 ⟨rfl, f5⟩; replace g := g.trans f5; clear f5)
    | (go_at_call 17; refine (texts_any _ (HL.out.kept g) _ (by first | exact z1.out | exact z2.out)).mono ?_; rintro e w5 ⟨rfl, f5⟩; replace g := g.trans f5; clear f5))
  go_ret
  exact ⟨rfl, g⟩
set_option maxHeartbeats 4000000 in
set_option maxRecDepth 100000 in
theorem within_q130 (w : World) (HL : Hid (LaidC w)) (r q : Int) (e1 : decide (r < 0) = false) (e2 : decide (1114111 < r) = false) (e3 : decide (55296 ≤ r) = true) (e4 : decide (r ≤ 57343) = false) (d1 : decide (q < 0) = true) (s1 : nst r = false) (c1 : nch r = false) (t1 : txt r = false) (t2 : txt q = false) : Calls Tryd.prog 6 #[.int .i32 r, .int .i32 q] w fun e w' => e = .returned (.bool true) ∧ Fr [] w w' := by
  have g := Fr.refl [] w
  go_enter Tryd.func6, Tryd.ntmps6
  go_wp2_with (first
    | (go_at_call 14; refine (awake_any _ (HL.out.kept g)).mono ?_; rintro e w5 ⟨rfl, f5⟩; replace g := g.trans f5; clear f5)
    | (go_at_call 8; refine (char_any _ (HL.out.kept g).spans _).mono ?_; rintro e w5 ⟨rfl, f5⟩; replace g := g.trans f5; clear f5)
    | (go_at_call 10; refine (nameStart_any _ (HL.out.kept g).spans _).mono ?_; rintro e w5 ⟨rfl, f5⟩; replace g := g.trans f5; clear f5)
    | (go_at_call 12; refine (nameChar_any _ (HL.out.kept g).spans _).mono ?_; rintro e w5 ⟨rfl, f5⟩; replace g := g.trans f5; clear f5)
    | (go_at_call 15; refine (name_any _ (HL.out.kept g) _).mono ?_; rintro e w5 ⟨rfl, f5⟩; replace g := g.trans f5; clear f5)
    | (go_at_call 17; refine (texts_any _ (HL.out.kept g) _ (by omega)).mono ?_; rintro e w5 ⟨rfl, f5⟩; replace g := g.trans f5; clear f5))
  go_ret
  exact ⟨rfl, g⟩
set_option maxHeartbeats 4000000 in
set_option maxRecDepth 100000 in
theorem within_q131 (w : World) (HL : Hid (LaidC w)) (r q : Int) (e1 : decide (r < 0) = false) (e2 : decide (1114111 < r) = false) (e3 : decide (55296 ≤ r) = true) (e4 : decide (r ≤ 57343) = false) (d1 : decide (q < 0) = false) (d2 : decide (1114111 < q) = true) (s1 : nst r = false) (c1 : nch r = false) (t1 : txt r = false) (t2 : txt q = false) : Calls Tryd.prog 6 #[.int .i32 r, .int .i32 q] w fun e w' => e = .returned (.bool true) ∧ Fr [] w w' := by
  have g := Fr.refl [] w
  go_enter Tryd.func6, Tryd.ntmps6
  go_wp2_with (first
    | (go_at_call 14; refine (awake_any _ (HL.out.kept g)).mono ?_; rintro e w5 ⟨rfl, f5⟩; replace g := g.trans f5; clear f5)
    | (go_at_call 8; refine (char_any _ (HL.out.kept g).spans _).mono ?_; rintro e w5 ⟨rfl, f5⟩; replace g := g.trans f5; clear f5)
    | (go_at_call 10; refine (nameStart_any _ (HL.out.kept g).spans _).mono ?_; rintro e w5 ⟨rfl, f5⟩; replace g := g.trans f5; clear f5)
    | (go_at_call 12; refine (nameChar_any _ (HL.out.kept g).spans _).mono ?_; rintro e w5 ⟨rfl, f5⟩; replace g := g.trans f5; clear f5)
    | (go_at_call 15; refine (name_any _ (HL.out.kept g) _).mono ?_; rintro e w5 ⟨rfl, f5⟩; replace g := g.trans f5; clear f5)
    | (go_at_call 17; refine (texts_any _ (HL.out.kept g) _ (by omega)).mono ?_; rintro e w5 ⟨rfl, f5⟩; replace g := g.trans f5; clear f5))
  go_ret
  exact ⟨rfl, g⟩
set_option maxHeartbeats 4000000 in
set_option maxRecDepth 100000 in
theorem within_q132 (w : World) (HL : Hid (LaidC w)) (r q : Int) (e1 : decide (r < 0) = false) (e2 : decide (1114111 < r) = false) (e3 : decide (55296 ≤ r) = true) (e4 : decide (r ≤ 57343) = false) (d1 : decide (q < 0) = false) (d2 : decide (1114111 < q) = false) (d3 : decide (55296 ≤ q) = true) (d4 : decide (q ≤ 57343) = true) (s1 : nst r = false) (c1 : nch r = false) (t1 : txt r = false) (t2 : txt q = false) : Calls Tryd.prog 6 #[.int .i32 r, .int .i32 q] w fun e w' => e = .returned (.bool true) ∧ Fr [] w w' := by
  have g := Fr.refl [] w
  go_enter Tryd.func6, Tryd.ntmps6
  go_wp2_with (first
    | (go_at_call 14; refine (awake_any _ (HL.out.kept g)).mono ?_; rintro e w5 ⟨rfl, f5⟩; replace g := g.trans f5; clear f5)
    | (go_at_call 8; refine (char_any _ (HL.out.kept g).spans _).mono ?_; rintro e w5 ⟨rfl, f5⟩; replace g := g.trans f5; clear f5)
    | (go_at_call 10; refine (nameStart_any _ (HL.out.kept g).spans _).mono ?_; rintro e w5 ⟨rfl, f5⟩; replace g := g.trans f5; clear f5)
    | (go_at_call 12; refine (nameChar_any _ (HL.out.kept g).spans _).mono ?_; rintro e w5 ⟨rfl, f5⟩; replace g := g.trans f5; clear f5)
    | (go_at_call 15; refine (name_any _ (HL.out.kept g) _).mono ?_; rintro e w5 ⟨rfl, f5⟩; replace g := g.trans f5; clear f5)
    | (go_at_call 17; refine (texts_any _ (HL.out.kept g) _ (by omega)).mono ?_; rintro e w5 ⟨rfl, f5⟩; replace g := g.trans f5; clear f5))
  go_ret
  exact ⟨rfl, g⟩
set_option maxHeartbeats 4000000 in
set_option maxRecDepth 100000 in
theorem within_g1300 (w : World) (HL : Hid (LaidC w)) (r q : Int) (e1 : decide (r < 0) = false) (e2 : decide (1114111 < r) = false) (e3 : decide (55296 ≤ r) = true) (e4 : decide (r ≤ 57343) = false) (d1 : decide (q < 0) = false) (d2 : decide (1114111 < q) = false) (d3 : decide (55296 ≤ q) = false) (s1 : nst r = false) (c1 : nch r = false) (t1 : txt r = false) (c2 : nch q = true) (t2 : txt q = true) (n1 : nameB (bl (Utf8.encode r)) = false) (x1 : textsB (bl (Utf8.encode r)) = false) (n2 : nameB (bl (Utf8.encode r ++ Utf8.encode q)) = false) (x2 : textsB (bl (Utf8.encode r ++ Utf8.encode q)) = false) (zA : (Utf8.encode r).size + (Utf8.encode q).size ≤ 9223372036854775807) (z1 : Hid ((Utf8.encode r).size < 140737488355328)) (z2 : Hid ((Utf8.encode r ++ Utf8.encode q).size < 140737488355328)) : Calls Tryd.prog 6 #[.int .i32 r, .int .i32 q] w fun e w' => e = .returned (.bool true) ∧ Fr [] w w' := by
  have g := Fr.refl [] w
  go_enter Tryd.func6, Tryd.ntmps6
  go_wp2_with (first
    | (go_at_call 14; refine (awake_any _ (HL.out.kept g)).mono ?_; rintro e w5 ⟨rfl, f5⟩; replace g := g.trans f5; clear f5)
    | (go_at_call 8; refine (char_any _ (HL.out.kept g).spans _).mono ?_; rintro e w5 ⟨rfl, f5⟩; replace g := g.trans f5; clear f5)
    | (go_at_call 10; refine (nameStart_any _ (HL.out.kept g).spans _).mono ?_; rintro e w5 ⟨rfl, f5⟩; replace g := g.trans f5; clear f5)
    | (go_at_call 12; refine (nameChar_any _ (HL.out.kept g).spans _).mono ?_; rintro e w5 ⟨rfl, f5⟩; replace g := g.trans f5; clear f5)
    | (go_at_call 15; refine (name_any _ (HL.out.kept g) _).mono ?_; rintro e w5 ⟨rfl, f5⟩; replace g := g.trans f5; clear f5)
    | (go_at_call 17; refine (texts_any _ (HL.out.kept g) _ (by first | exact z1.out | exact z2.out)).mono ?_; rintro e w5 ⟨rfl, f5⟩; replace g := g.trans f5; clear f5))
  go_ret
  exact ⟨rfl, g⟩
set_option maxHeartbeats 4000000 in
set_option maxRecDepth 100000 in
theorem within_g1301 (w : World) (HL : Hid (LaidC w)) (r q : Int) (e1 : decide (r < 0) = false) (e2 : decide (1114111 < r) = false) (e3 : decide (55296 ≤ r) = true) (e4 : decide (r ≤ 57343) = false) (d1 : decide (q < 0) = false) (d2 : decide (1114111 < q) = false) (d3 : decide (55296 ≤ q) = false) (s1 : nst r = false) (c1 : nch r = false) (t1 : txt r = false) (c2 : nch q = false) (t2 : txt q = true) (n1 : nameB (bl (Utf8.encode r)) = false) (x1 : textsB (bl (Utf8.encode r)) = false) (n2 : nameB (bl (Utf8.encode r ++ Utf8.encode q)) = false) (x2 : textsB (bl (Utf8.encode r ++ Utf8.encode q)) = false) (zA : (Utf8.encode r).size + (Utf8.encode q).size ≤ 9223372036854775807) (z1 : Hid ((Utf8.encode r).size < 140737488355328)) (z2 : Hid ((Utf8.encode r ++ Utf8.encode q).size < 140737488355328)) : Calls Tryd.prog 6 #[.int .i32 r, .int .i32 q] w fun e w' => e = .returned (.bool true) ∧ Fr [] w w' := by
  have g := Fr.refl [] w
  go_enter Tryd.func6, Tryd.ntmps6
  go_wp2_with (first
    | (go_at_call 14; refine (awake_any _ (HL.out.kept g)).mono ?_; rintro e w5 ⟨rfl, f5⟩; replace g := g.trans f5; clear f5)
    | (go_at_call 8; refine (char_any _ (HL.out.kept g).spans _).mono ?_; rintro e w5 ⟨rfl, f5⟩; replace g := g.trans f5; clear f5)
    | (go_at_call 10; refine (nameStart_any _ (HL.out.kept g).spans _).mono ?_; rintro e w5 ⟨rfl, f5⟩; replace g := g.trans f5; clear f5)
    | (go_at_call 12; refine (nameChar_any _ (HL.out.kept g).spans _).mono ?_; rintro e w5 ⟨rfl, f5⟩; replace g := g.trans f5; clear f5)
    | (go_at_call 15; refine (name_any _ (HL.out.kept g) _).mono ?_; rintro e w5 ⟨rfl, f5⟩; replace g := g.trans f5; clear f5)
    | (go_at_call 17; refine (texts_any _ (HL.out.kept g) _ (by first | exact z1.out | exact z2.out)).mono ?_; rintro e w5 ⟨rfl, f5⟩; replace g := g.trans f5; clear f5))
  go_ret
  exact ⟨rfl, g⟩
set_option maxHeartbeats 4000000 in
set_option maxRecDepth 100000 in
theorem within_g1302 (w : World) (HL : Hid (LaidC w)) (r q : Int) (e1 : decide (r < 0) = false) (e2 : decide (1114111 < r) = false) (e3 : decide (55296 ≤ r) = true) (e4 : decide (r ≤ 57343) = false) (d1 : decide (q < 0) = false) (d2 : decide (1114111 < q) = false) (d3 : decide (55296 ≤ q) = false) (s1 : nst r = false) (c1 : nch r = false) (t1 : txt r = false) (c2 : nch q = false) (t2 : txt q = false) (n1 : nameB (bl (Utf8.encode r)) = false) (x1 : textsB (bl (Utf8.encode r)) = false) (n2 : nameB (bl (Utf8.encode r ++ Utf8.encode q)) = false) (x2 : textsB (bl (Utf8.encode r ++ Utf8.encode q)) = false) (zA : (Utf8.encode r).size + (Utf8.encode q).size ≤ 9223372036854775807) (z1 : Hid ((Utf8.encode r).size < 140737488355328)) (z2 : Hid ((Utf8.encode r ++ Utf8.encode q).size < 140737488355328)) : Calls Tryd.prog 6 #[.int .i32 r, .int .i32 q] w fun e w' => e = .returned (.bool true) ∧ Fr [] w w' := by
  have g := Fr.refl [] w
  go_enter Tryd.func6, Tryd.ntmps6
  go_wp2_with (first
    | (go_at_call 14; refine (awake_any _ (HL.out.kept g)).mono ?_; rintro e w5 ⟨rfl, f5⟩; replace g := g.trans f5; clear f5)
    | (go_at_call 8; refine (char_any _ (HL.out.kept g).spans _).mono ?_; rintro e w5 ⟨rfl, f5⟩; replace g := g.trans f5; clear f5)
    | (go_at_call 10; refine (nameStart_any _ (HL.out.kept g).spans _).mono ?_; rintro e w5 ⟨rfl, f5⟩; replace g := g.trans f5; clear f5)
    | (go_at_call 12; refine (nameChar_any _ (HL.out.kept g).spans _).mono ?_; rintro e w5 ⟨rfl, f5⟩; replace g := g.trans f5; clear f5)
    | (go_at_call 15; refine (name_any _ (HL.out.kept g) _).mono ?_; rintro e w5 ⟨rfl, f5⟩; replace g := g.trans f5; clear f5)
    | (go_at_call 17; refine (texts_any _ (HL.out.kept g) _ (by first | exact z1.out | exact z2.out)).mono ?_; rintro e w5 ⟨rfl, f5⟩; replace g := g.trans f5; clear f5))
  go_ret
  exact ⟨rfl, g⟩
set_option maxHeartbeats 4000000 in
set_option maxRecDepth 100000 in
theorem within_g1310 (w : World) (HL : Hid (LaidC w)) (r q : Int) (e1 : decide (r < 0) = false) (e2 : decide (1114111 < r) = false) (e3 : decide (55296 ≤ r) = true) (e4 : decide (r ≤ 57343) = false) (d1 : decide (q < 0) = false) (d2 : decide (1114111 < q) = false) (d3 : decide (55296 ≤ q) = true) (d4 : decide (q ≤ 57343) = false) (s1 : nst r = false) (c1 : nch r = false) (t1 : txt r = false) (c2 : nch q = true) (t2 : txt q = true) (n1 : nameB (bl (Utf8.encode r)) = false) (x1 : textsB (bl (Utf8.encode r)) = false) (n2 : nameB (bl (Utf8.encode r ++ Utf8.encode q)) = false) (x2 : textsB (bl (Utf8.encode r ++ Utf8.encode q)) = false) (zA : (Utf8.encode r).size + (Utf8.encode q).size ≤ 9223372036854775807) (z1 : Hid ((Utf8.encode r).size < 140737488355328)) (z2 : Hid ((Utf8.encode r ++ Utf8.encode q).size < 140737488355328)) : Calls Tryd.prog 6 #[.int .i32 r, .int .i32 q] w fun e w' => e = .returned (.bool true) ∧ Fr [] w w' := by
  have g := Fr.refl [] w
  go_enter Tryd.func6, Tryd.ntmps6
  go_wp2_with (first
    | (go_at_call 14; refine (awake_any _ (HL.out.kept g)).mono ?_; rintro e w5 ⟨rfl, f5⟩; replace g := g.trans f5; clear f5)
    | (go_at_call 8; refine (char_any _ (HL.out.kept g).spans _).mono ?_; rintro e w5 ⟨rfl, f5⟩; replace g := g.trans f5; clear f5)
    | (go_at_call 10; refine (nameStart_any _ (HL.out.kept g).spans _).mono ?_; rintro e w5 ⟨rfl, f5⟩; replace g := g.trans f5; clear f5)
    | (go_at_call 12; refine (nameChar_any _ (HL.out.kept g).spans _).mono ?_; rintro e w5 ⟨rfl, f5⟩; replace g := g.trans f5; clear f5)
    | (go_at_call 15; refine (name_any _ (HL.out.kept g) _).mono ?_; rintro e w5 ⟨rfl, f5⟩; replace g := g.trans f5; clear f5)
    | (go_at_call 17; refine (texts_any _ (HL.out.kept g) _ (by first | exact z1.out | exact z2.out)).mono ?_; rintro e w5 ⟨rfl, f5⟩; replace g := g.trans f5; clear f5))
  go_ret
  exact ⟨rfl, g⟩
set_option maxHeartbeats 4000000 in
set_option maxRecDepth 100000 in
theorem within_g1311 (w : World) (HL : Hid (LaidC w)) (r q : Int) (e1 : decide (r < 0) = false) (e2 : decide (1114111 < r) = false) (e3 : decide (55296 ≤ r) = true) (e4 : decide (r ≤ 57343) = false) (d1 : decide (q < 0) = false) (d2 : decide (1114111 < q) = false) (d3 : decide (55296 ≤ q) = true) (d4 : decide (q ≤ 57343) = false) (s1 : nst r = false) (c1 : nch r = false) (t1 : txt r = false) (c2 : nch q = false) (t2 : txt q = true) (n1 : nameB (bl (Utf8.encode r)) = false) (x1 : textsB (bl (Utf8.encode r)) = false) (n2 : nameB (bl (Utf8.encode r ++ Utf8.encode q)) = false) (x2 : textsB (bl (Utf8.encode r ++ Utf8.encode q)) = false) (zA : (Utf8.encode r).size + (Utf8.encode q).size ≤ 9223372036854775807) (z1 : Hid ((Utf8.encode r).size < 140737488355328)) (z2 : Hid ((Utf8.encode r ++ Utf8.encode q).size < 140737488355328)) : Calls Tryd.prog 6 #[.int .i32 r, .int .i32 q] w fun e w' => e = .returned (.bool true) ∧ Fr [] w w' := by
  have g := Fr.refl [] w
  go_enter Tryd.func6, Tryd.ntmps6
  go_wp2_with (first
    | (go_at_call 14; refine (awake_any _ (HL.out.kept g)).mono ?_; rintro e w5 ⟨rfl, f5⟩; replace g := g.trans f5; clear f5)
    | (go_at_call 8; refine (char_any _ (HL.out.kept g).spans _).mono ?_; rintro e w5 ⟨rfl, f5⟩; replace g := g.trans f5; clear f5)
    | (go_at_call 10; refine (nameStart_any _ (HL.out.kept g).spans _).mono ?_; rintro e w5 ⟨rfl, f5⟩; replace g := g.trans f5; clear f5)
    | (go_at_call 12; refine (nameChar_any _ (HL.out.kept g).spans _).mono ?_; rintro e w5 ⟨rfl, f5⟩; replace g := g.trans f5; clear f5)
    | (go_at_call 15; refine (name_any _ (HL.out.kept g) _).mono ?_; rintro e w5 ⟨rfl, f5⟩; replace g := g.trans f5; clear f5)
    | (go_at_call 17; refine (texts_any _ (HL.out.kept g) _ (by first | exact z1.out | exact z2.out)).mono ?_; rintro e w5 ⟨rfl, f5⟩; replace g := g.trans f5; clear f5))
  go_ret
  exact ⟨rfl, g⟩
set_option maxHeartbeats 4000000 in
set_option maxRecDepth 100000 in
theorem within_g1312 (w : World) (HL : Hid (LaidC w)) (r q : Int) (e1 : decide (r < 0) = false) (e2 : decide (1114111 < r) = false) (e3 : decide (55296 ≤ r) = true) (e4 : decide (r ≤ 57343) = false) (d1 : decide (q < 0) = false) (d2 : decide (1114111 < q) = false) (d3 : decide (55296 ≤ q) = true) (d4 : decide (q ≤ 57343) = false) (s1 : nst r = false) (c1 : nch r = false) (t1 : txt r = false) (c2 : nch q = false) (t2 : txt q = false) (n1 : nameB (bl (Utf8.encode r)) = false) (x1 : textsB (bl (Utf8.encode r)) = false) (n2 : nameB (bl (Utf8.encode r ++ Utf8.encode q)) = false) (x2 : textsB (bl (Utf8.encode r ++ Utf8.encode q)) = false) (zA : (Utf8.encode r).size + (Utf8.encode q).size ≤ 9223372036854775807) (z1 : Hid ((Utf8.encode r).size < 140737488355328)) (z2 : Hid ((Utf8.encode r ++ Utf8.encode q).size < 140737488355328)) : Calls Tryd.prog 6 #[.int .i32 r, .int .i32 q] w fun e w' => e = .returned (.bool true) ∧ Fr [] w w' := by
  have g := Fr.refl [] w
  go_enter Tryd.func6, Tryd.ntmps6
  go_wp2_with (first
    | (go_at_call 14; refine (awake_any _ (HL.out.kept g)).mono ?_; rintro e w5 ⟨rfl, f5⟩; replace g := g.trans f5; clear f5)
    | (go_at_call 8; refine (char_any _ (HL.out.kept g).spans _).mono ?_; rintro e w5 ⟨rfl, f5⟩; replace g := g.trans f5; clear f5)
    | (go_at_call 10; refine (nameStart_any _ (HL.out.kept g).spans _).mono ?_; rintro e w5 ⟨rfl, f5⟩; replace g := g.trans f5; clear f5)
    | (go_at_call 12; refine (nameChar_any _ (HL.out.kept g).spans _).mono ?_; rintro e w5 ⟨rfl, f5⟩; replace g := g.trans f5; clear f5)
    | (go_at_call 15; refine (name_any _ (HL.out.kept g) _).mono ?_; rintro e w5 ⟨rfl, f5⟩; replace g := g.trans f5; clear f5)
    | (go_at_call 17; refine (texts_any _ (HL.out.kept g) _ (by first | exact z1.out | exact z2.out)).mono ?_; rintro e w5 ⟨rfl, f5⟩; replace g := g.trans f5; clear f5))
  go_ret
  exact ⟨rfl, g⟩
end Go.Proofs.YtmhfbkafcpceiaaDoor
