/-
  CharsJoined.
-/
import Derived.Test.YtmhfbkafcpceiaaDoorCAwake
namespace Go.Proofs.YtmhfbkafcpceiaaDoor
open Go.RowKit Go.Maps
set_option linter.unusedVariables false

set_option maxHeartbeats 4000000 in
set_option maxRecDepth 100000 in
theorem joined_1000d (w : World) (HL : Hid (LaidC w)) (s t : ByteArray) (e1 : decide (100000 < (s.size : Int) + (t.size : Int)) = false) (zA : s.size + t.size ≤ 9223372036854775807) (z0 : (s.size : Int) + (t.size : Int) ≤ 100000) (z1 : Hid (s.size < 140737488355328)) (z2 : Hid (t.size < 140737488355328)) (z3 : Hid ((s ++ t).size < 140737488355328))
    (T1 : textsB (bl s) = true) (T2 : textsB (bl t) = false) (T3 : textsB (bl (s ++ t)) = false) (B1 : blankB (bl s) = false) (B3 : blankB (bl (s ++ t)) = false) (N1 : nameB (bl s) = true) (N2 : nameB (bl t) = false) (N3 : nameB (bl (s ++ t)) = true) (E : ¬ s.toList = []) : Calls Tryd.prog 7 #[.string s, .string t] w fun e w' => e = .returned (.bool true) ∧ Fr [] w w' := by
  have g := Fr.refl [] w
  go_enter Tryd.func7, Tryd.ntmps7
  go_wp2_with (first
    | (go_at_call 14; refine (awake_any _ (HL.out.kept g)).mono ?_; rintro e w5 ⟨rfl, f5⟩; replace g := g.trans f5; clear f5)
    | (go_at_call 15; refine (name_any _ (HL.out.kept g) _).mono ?_; rintro e w5 ⟨rfl, f5⟩; replace g := g.trans f5; clear f5)
    | (go_at_call 17; refine (texts_any _ (HL.out.kept g) _ (by first | exact z1.out | exact z2.out | exact z3.out)).mono ?_; rintro e w5 ⟨rfl, f5⟩; replace g := g.trans f5; clear f5)
    | (go_at_call 19; refine (blank_any _ _ (by first | exact z1.out | exact z2.out | exact z3.out)).mono ?_; rintro e w5 ⟨rfl, f5⟩; replace g := g.trans f5; clear f5))
  go_ret
  exact ⟨rfl, g⟩
set_option maxHeartbeats 4000000 in
set_option maxRecDepth 100000 in
theorem joined_1000e (w : World) (HL : Hid (LaidC w)) (s t : ByteArray) (e1 : decide (100000 < (s.size : Int) + (t.size : Int)) = false) (zA : s.size + t.size ≤ 9223372036854775807) (z0 : (s.size : Int) + (t.size : Int) ≤ 100000) (z1 : Hid (s.size < 140737488355328)) (z2 : Hid (t.size < 140737488355328)) (z3 : Hid ((s ++ t).size < 140737488355328))
    (T1 : textsB (bl s) = true) (T2 : textsB (bl t) = false) (T3 : textsB (bl (s ++ t)) = false) (B1 : blankB (bl s) = false) (B3 : blankB (bl (s ++ t)) = false) (N1 : nameB (bl s) = true) (N2 : nameB (bl t) = true) (N3 : nameB (bl (s ++ t)) = false) (d1 : decide ((s.size : Int) + (t.size : Int) ≤ 100) = false) : Calls Tryd.prog 7 #[.string s, .string t] w fun e w' => e = .returned (.bool true) ∧ Fr [] w w' := by
  have g := Fr.refl [] w
  go_enter Tryd.func7, Tryd.ntmps7
  go_wp2_with (first
    | (go_at_call 14; refine (awake_any _ (HL.out.kept g)).mono ?_; rintro e w5 ⟨rfl, f5⟩; replace g := g.trans f5; clear f5)
    | (go_at_call 15; refine (name_any _ (HL.out.kept g) _).mono ?_; rintro e w5 ⟨rfl, f5⟩; replace g := g.trans f5; clear f5)
    | (go_at_call 17; refine (texts_any _ (HL.out.kept g) _ (by first | exact z1.out | exact z2.out | exact z3.out)).mono ?_; rintro e w5 ⟨rfl, f5⟩; replace g := g.trans f5; clear f5)
    | (go_at_call 19; refine (blank_any _ _ (by first | exact z1.out | exact z2.out | exact z3.out)).mono ?_; rintro e w5 ⟨rfl, f5⟩; replace g := g.trans f5; clear f5))
  go_ret
  exact ⟨rfl, g⟩
set_option maxHeartbeats 4000000 in
set_option maxRecDepth 100000 in
theorem joined_1000f (w : World) (HL : Hid (LaidC w)) (s t : ByteArray) (e1 : decide (100000 < (s.size : Int) + (t.size : Int)) = false) (zA : s.size + t.size ≤ 9223372036854775807) (z0 : (s.size : Int) + (t.size : Int) ≤ 100000) (z1 : Hid (s.size < 140737488355328)) (z2 : Hid (t.size < 140737488355328)) (z3 : Hid ((s ++ t).size < 140737488355328))
    (T1 : textsB (bl s) = true) (T2 : textsB (bl t) = false) (T3 : textsB (bl (s ++ t)) = false) (B1 : blankB (bl s) = false) (B3 : blankB (bl (s ++ t)) = false) (N1 : nameB (bl s) = true) (N2 : nameB (bl t) = true) (N3 : nameB (bl (s ++ t)) = true) (d1 : decide ((s.size : Int) + (t.size : Int) ≤ 100) = true) (E : ¬ s.toList = []) : Calls Tryd.prog 7 #[.string s, .string t] w fun e w' => e = .returned (.bool true) ∧ Fr [] w w' := by
  have g := Fr.refl [] w
  go_enter Tryd.func7, Tryd.ntmps7
  go_wp2_with (first
    | (go_at_call 14; refine (awake_any _ (HL.out.kept g)).mono ?_; rintro e w5 ⟨rfl, f5⟩; replace g := g.trans f5; clear f5)
    | (go_at_call 15; refine (name_any _ (HL.out.kept g) _).mono ?_; rintro e w5 ⟨rfl, f5⟩; replace g := g.trans f5; clear f5)
    | (go_at_call 17; refine (texts_any _ (HL.out.kept g) _ (by first | exact z1.out | exact z2.out | exact z3.out)).mono ?_; rintro e w5 ⟨rfl, f5⟩; replace g := g.trans f5; clear f5)
    | (go_at_call 19; refine (blank_any _ _ (by first | exact z1.out | exact z2.out | exact z3.out)).mono ?_; rintro e w5 ⟨rfl, f5⟩; replace g := g.trans f5; clear f5))
  go_ret
  exact ⟨rfl, g⟩
set_option maxHeartbeats 4000000 in
set_option maxRecDepth 100000 in
theorem joined_1001a (w : World) (HL : Hid (LaidC w)) (s t : ByteArray) (e1 : decide (100000 < (s.size : Int) + (t.size : Int)) = false) (zA : s.size + t.size ≤ 9223372036854775807) (z0 : (s.size : Int) + (t.size : Int) ≤ 100000) (z1 : Hid (s.size < 140737488355328)) (z2 : Hid (t.size < 140737488355328)) (z3 : Hid ((s ++ t).size < 140737488355328))
    (T1 : textsB (bl s) = true) (T2 : textsB (bl t) = false) (T3 : textsB (bl (s ++ t)) = false) (B1 : blankB (bl s) = true) (B2 : blankB (bl t) = false) (B3 : blankB (bl (s ++ t)) = false) (N1 : nameB (bl s) = false) (N3 : nameB (bl (s ++ t)) = false) : Calls Tryd.prog 7 #[.string s, .string t] w fun e w' => e = .returned (.bool true) ∧ Fr [] w w' := by
  have g := Fr.refl [] w
  go_enter Tryd.func7, Tryd.ntmps7
  go_wp2_with (first
    | (go_at_call 14; refine (awake_any _ (HL.out.kept g)).mono ?_; rintro e w5 ⟨rfl, f5⟩; replace g := g.trans f5; clear f5)
    | (go_at_call 15; refine (name_any _ (HL.out.kept g) _).mono ?_; rintro e w5 ⟨rfl, f5⟩; replace g := g.trans f5; clear f5)
    | (go_at_call 17; refine (texts_any _ (HL.out.kept g) _ (by first | exact z1.out | exact z2.out | exact z3.out)).mono ?_; rintro e w5 ⟨rfl, f5⟩; replace g := g.trans f5; clear f5)
    | (go_at_call 19; refine (blank_any _ _ (by first | exact z1.out | exact z2.out | exact z3.out)).mono ?_; rintro e w5 ⟨rfl, f5⟩; replace g := g.trans f5; clear f5))
  go_ret
  exact ⟨rfl, g⟩
set_option maxHeartbeats 4000000 in
set_option maxRecDepth 100000 in
theorem joined_1001b (w : World) (HL : Hid (LaidC w)) (s t : ByteArray) (e1 : decide (100000 < (s.size : Int) + (t.size : Int)) = false) (zA : s.size + t.size ≤ 9223372036854775807) (z0 : (s.size : Int) + (t.size : Int) ≤ 100000) (z1 : Hid (s.size < 140737488355328)) (z2 : Hid (t.size < 140737488355328)) (z3 : Hid ((s ++ t).size < 140737488355328))
    (T1 : textsB (bl s) = true) (T2 : textsB (bl t) = false) (T3 : textsB (bl (s ++ t)) = false) (B1 : blankB (bl s) = true) (B2 : blankB (bl t) = false) (B3 : blankB (bl (s ++ t)) = false) (N1 : nameB (bl s) = false) (N3 : nameB (bl (s ++ t)) = true) (E : s.toList = []) : Calls Tryd.prog 7 #[.string s, .string t] w fun e w' => e = .returned (.bool true) ∧ Fr [] w w' := by
  have g := Fr.refl [] w
  go_enter Tryd.func7, Tryd.ntmps7
  go_wp2_with (first
    | (go_at_call 14; refine (awake_any _ (HL.out.kept g)).mono ?_; rintro e w5 ⟨rfl, f5⟩; replace g := g.trans f5; clear f5)
    | (go_at_call 15; refine (name_any _ (HL.out.kept g) _).mono ?_; rintro e w5 ⟨rfl, f5⟩; replace g := g.trans f5; clear f5)
    | (go_at_call 17; refine (texts_any _ (HL.out.kept g) _ (by first | exact z1.out | exact z2.out | exact z3.out)).mono ?_; rintro e w5 ⟨rfl, f5⟩; replace g := g.trans f5; clear f5)
    | (go_at_call 19; refine (blank_any _ _ (by first | exact z1.out | exact z2.out | exact z3.out)).mono ?_; rintro e w5 ⟨rfl, f5⟩; replace g := g.trans f5; clear f5))
  go_ret
  exact ⟨rfl, g⟩
set_option maxHeartbeats 4000000 in
set_option maxRecDepth 100000 in
theorem joined_1001c (w : World) (HL : Hid (LaidC w)) (s t : ByteArray) (e1 : decide (100000 < (s.size : Int) + (t.size : Int)) = false) (zA : s.size + t.size ≤ 9223372036854775807) (z0 : (s.size : Int) + (t.size : Int) ≤ 100000) (z1 : Hid (s.size < 140737488355328)) (z2 : Hid (t.size < 140737488355328)) (z3 : Hid ((s ++ t).size < 140737488355328))
    (T1 : textsB (bl s) = true) (T2 : textsB (bl t) = false) (T3 : textsB (bl (s ++ t)) = false) (B1 : blankB (bl s) = true) (B2 : blankB (bl t) = false) (B3 : blankB (bl (s ++ t)) = false) (N1 : nameB (bl s) = true) (N2 : nameB (bl t) = false) (N3 : nameB (bl (s ++ t)) = false) : Calls Tryd.prog 7 #[.string s, .string t] w fun e w' => e = .returned (.bool true) ∧ Fr [] w w' := by
  have g := Fr.refl [] w
  go_enter Tryd.func7, Tryd.ntmps7
  go_wp2_with (first
    | (go_at_call 14; refine (awake_any _ (HL.out.kept g)).mono ?_; rintro e w5 ⟨rfl, f5⟩; replace g := g.trans f5; clear f5)
    | (go_at_call 15; refine (name_any _ (HL.out.kept g) _).mono ?_; rintro e w5 ⟨rfl, f5⟩; replace g := g.trans f5; clear f5)
    | (go_at_call 17; refine (texts_any _ (HL.out.kept g) _ (by first | exact z1.out | exact z2.out | exact z3.out)).mono ?_; rintro e w5 ⟨rfl, f5⟩; replace g := g.trans f5; clear f5)
    | (go_at_call 19; refine (blank_any _ _ (by first | exact z1.out | exact z2.out | exact z3.out)).mono ?_; rintro e w5 ⟨rfl, f5⟩; replace g := g.trans f5; clear f5))
  go_ret
  exact ⟨rfl, g⟩
set_option maxHeartbeats 4000000 in
set_option maxRecDepth 100000 in
theorem joined_1001d (w : World) (HL : Hid (LaidC w)) (s t : ByteArray) (e1 : decide (100000 < (s.size : Int) + (t.size : Int)) = false) (zA : s.size + t.size ≤ 9223372036854775807) (z0 : (s.size : Int) + (t.size : Int) ≤ 100000) (z1 : Hid (s.size < 140737488355328)) (z2 : Hid (t.size < 140737488355328)) (z3 : Hid ((s ++ t).size < 140737488355328))
    (T1 : textsB (bl s) = true) (T2 : textsB (bl t) = false) (T3 : textsB (bl (s ++ t)) = false) (B1 : blankB (bl s) = true) (B2 : blankB (bl t) = false) (B3 : blankB (bl (s ++ t)) = false) (N1 : nameB (bl s) = true) (N2 : nameB (bl t) = false) (N3 : nameB (bl (s ++ t)) = true) (E : ¬ s.toList = []) : Calls Tryd.prog 7 #[.string s, .string t] w fun e w' => e = .returned (.bool true) ∧ Fr [] w w' := by
  have g := Fr.refl [] w
  go_enter Tryd.func7, Tryd.ntmps7
  go_wp2_with (first
    | (go_at_call 14; refine (awake_any _ (HL.out.kept g)).mono ?_; rintro e w5 ⟨rfl, f5⟩; replace g := g.trans f5; clear f5)
    | (go_at_call 15; refine (name_any _ (HL.out.kept g) _).mono ?_; rintro e w5 ⟨rfl, f5⟩; replace g := g.trans f5; clear f5)
    | (go_at_call 17; refine (texts_any _ (HL.out.kept g) _ (by first | exact z1.out | exact z2.out | exact z3.out)).mono ?_; rintro e w5 ⟨rfl, f5⟩; replace g := g.trans f5; clear f5)
    | (go_at_call 19; refine (blank_any _ _ (by first | exact z1.out | exact z2.out | exact z3.out)).mono ?_; rintro e w5 ⟨rfl, f5⟩; replace g := g.trans f5; clear f5))
  go_ret
  exact ⟨rfl, g⟩
set_option maxHeartbeats 4000000 in
set_option maxRecDepth 100000 in
theorem joined_1001e (w : World) (HL : Hid (LaidC w)) (s t : ByteArray) (e1 : decide (100000 < (s.size : Int) + (t.size : Int)) = false) (zA : s.size + t.size ≤ 9223372036854775807) (z0 : (s.size : Int) + (t.size : Int) ≤ 100000) (z1 : Hid (s.size < 140737488355328)) (z2 : Hid (t.size < 140737488355328)) (z3 : Hid ((s ++ t).size < 140737488355328))
    (T1 : textsB (bl s) = true) (T2 : textsB (bl t) = false) (T3 : textsB (bl (s ++ t)) = false) (B1 : blankB (bl s) = true) (B2 : blankB (bl t) = false) (B3 : blankB (bl (s ++ t)) = false) (N1 : nameB (bl s) = true) (N2 : nameB (bl t) = true) (N3 : nameB (bl (s ++ t)) = false) (d1 : decide ((s.size : Int) + (t.size : Int) ≤ 100) = false) : Calls Tryd.prog 7 #[.string s, .string t] w fun e w' => e = .returned (.bool true) ∧ Fr [] w w' := by
  have g := Fr.refl [] w
  go_enter Tryd.func7, Tryd.ntmps7
  go_wp2_with (first
    | (go_at_call 14; refine (awake_any _ (HL.out.kept g)).mono ?_; rintro e w5 ⟨rfl, f5⟩; replace g := g.trans f5; clear f5)
    | (go_at_call 15; refine (name_any _ (HL.out.kept g) _).mono ?_; rintro e w5 ⟨rfl, f5⟩; replace g := g.trans f5; clear f5)
    | (go_at_call 17; refine (texts_any _ (HL.out.kept g) _ (by first | exact z1.out | exact z2.out | exact z3.out)).mono ?_; rintro e w5 ⟨rfl, f5⟩; replace g := g.trans f5; clear f5)
    | (go_at_call 19; refine (blank_any _ _ (by first | exact z1.out | exact z2.out | exact z3.out)).mono ?_; rintro e w5 ⟨rfl, f5⟩; replace g := g.trans f5; clear f5))
  go_ret
  exact ⟨rfl, g⟩
set_option maxHeartbeats 4000000 in
set_option maxRecDepth 100000 in
theorem joined_1001f (w : World) (HL : Hid (LaidC w)) (s t : ByteArray) (e1 : decide (100000 < (s.size : Int) + (t.size : Int)) = false) (zA : s.size + t.size ≤ 9223372036854775807) (z0 : (s.size : Int) + (t.size : Int) ≤ 100000) (z1 : Hid (s.size < 140737488355328)) (z2 : Hid (t.size < 140737488355328)) (z3 : Hid ((s ++ t).size < 140737488355328))
    (T1 : textsB (bl s) = true) (T2 : textsB (bl t) = false) (T3 : textsB (bl (s ++ t)) = false) (B1 : blankB (bl s) = true) (B2 : blankB (bl t) = false) (B3 : blankB (bl (s ++ t)) = false) (N1 : nameB (bl s) = true) (N2 : nameB (bl t) = true) (N3 : nameB (bl (s ++ t)) = true) (d1 : decide ((s.size : Int) + (t.size : Int) ≤ 100) = true) (E : ¬ s.toList = []) : Calls Tryd.prog 7 #[.string s, .string t] w fun e w' => e = .returned (.bool true) ∧ Fr [] w w' := by
  have g := Fr.refl [] w
  go_enter Tryd.func7, Tryd.ntmps7
  go_wp2_with (first
    | (go_at_call 14; refine (awake_any _ (HL.out.kept g)).mono ?_; rintro e w5 ⟨rfl, f5⟩; replace g := g.trans f5; clear f5)
    | (go_at_call 15; refine (name_any _ (HL.out.kept g) _).mono ?_; rintro e w5 ⟨rfl, f5⟩; replace g := g.trans f5; clear f5)
    | (go_at_call 17; refine (texts_any _ (HL.out.kept g) _ (by first | exact z1.out | exact z2.out | exact z3.out)).mono ?_; rintro e w5 ⟨rfl, f5⟩; replace g := g.trans f5; clear f5)
    | (go_at_call 19; refine (blank_any _ _ (by first | exact z1.out | exact z2.out | exact z3.out)).mono ?_; rintro e w5 ⟨rfl, f5⟩; replace g := g.trans f5; clear f5))
  go_ret
  exact ⟨rfl, g⟩
set_option maxHeartbeats 4000000 in
set_option maxRecDepth 100000 in
theorem joined_1002a (w : World) (HL : Hid (LaidC w)) (s t : ByteArray) (e1 : decide (100000 < (s.size : Int) + (t.size : Int)) = false) (zA : s.size + t.size ≤ 9223372036854775807) (z0 : (s.size : Int) + (t.size : Int) ≤ 100000) (z1 : Hid (s.size < 140737488355328)) (z2 : Hid (t.size < 140737488355328)) (z3 : Hid ((s ++ t).size < 140737488355328))
    (T1 : textsB (bl s) = true) (T2 : textsB (bl t) = false) (T3 : textsB (bl (s ++ t)) = false) (B1 : blankB (bl s) = true) (B2 : blankB (bl t) = true) (B3 : blankB (bl (s ++ t)) = true) (N1 : nameB (bl s) = false) (N3 : nameB (bl (s ++ t)) = false) : Calls Tryd.prog 7 #[.string s, .string t] w fun e w' => e = .returned (.bool true) ∧ Fr [] w w' := by
  have g := Fr.refl [] w
  go_enter Tryd.func7, Tryd.ntmps7
  go_wp2_with (first
    | (go_at_call 14; refine (awake_any _ (HL.out.kept g)).mono ?_; rintro e w5 ⟨rfl, f5⟩; replace g := g.trans f5; clear f5)
    | (go_at_call 15; refine (name_any _ (HL.out.kept g) _).mono ?_; rintro e w5 ⟨rfl, f5⟩; replace g := g.trans f5; clear f5)
    | (go_at_call 17; refine (texts_any _ (HL.out.kept g) _ (by first | exact z1.out | exact z2.out | exact z3.out)).mono ?_; rintro e w5 ⟨rfl, f5⟩; replace g := g.trans f5; clear f5)
    | (go_at_call 19; refine (blank_any _ _ (by first | exact z1.out | exact z2.out | exact z3.out)).mono ?_; rintro e w5 ⟨rfl, f5⟩; replace g := g.trans f5; clear f5))
  go_ret
  exact ⟨rfl, g⟩
set_option maxHeartbeats 4000000 in
set_option maxRecDepth 100000 in
theorem joined_1002b (w : World) (HL : Hid (LaidC w)) (s t : ByteArray) (e1 : decide (100000 < (s.size : Int) + (t.size : Int)) = false) (zA : s.size + t.size ≤ 9223372036854775807) (z0 : (s.size : Int) + (t.size : Int) ≤ 100000) (z1 : Hid (s.size < 140737488355328)) (z2 : Hid (t.size < 140737488355328)) (z3 : Hid ((s ++ t).size < 140737488355328))
    (T1 : textsB (bl s) = true) (T2 : textsB (bl t) = false) (T3 : textsB (bl (s ++ t)) = false) (B1 : blankB (bl s) = true) (B2 : blankB (bl t) = true) (B3 : blankB (bl (s ++ t)) = true) (N1 : nameB (bl s) = false) (N3 : nameB (bl (s ++ t)) = true) (E : s.toList = []) : Calls Tryd.prog 7 #[.string s, .string t] w fun e w' => e = .returned (.bool true) ∧ Fr [] w w' := by
  have g := Fr.refl [] w
  go_enter Tryd.func7, Tryd.ntmps7
  go_wp2_with (first
    | (go_at_call 14; refine (awake_any _ (HL.out.kept g)).mono ?_; rintro e w5 ⟨rfl, f5⟩; replace g := g.trans f5; clear f5)
    | (go_at_call 15; refine (name_any _ (HL.out.kept g) _).mono ?_; rintro e w5 ⟨rfl, f5⟩; replace g := g.trans f5; clear f5)
    | (go_at_call 17; refine (texts_any _ (HL.out.kept g) _ (by first | exact z1.out | exact z2.out | exact z3.out)).mono ?_; rintro e w5 ⟨rfl, f5⟩; replace g := g.trans f5; clear f5)
    | (go_at_call 19; refine (blank_any _ _ (by first | exact z1.out | exact z2.out | exact z3.out)).mono ?_; rintro e w5 ⟨rfl, f5⟩; replace g := g.trans f5; clear f5))
  go_ret
  exact ⟨rfl, g⟩
set_option maxHeartbeats 4000000 in
set_option maxRecDepth 100000 in
theorem joined_1002c (w : World) (HL : Hid (LaidC w)) (s t : ByteArray) (e1 : decide (100000 < (s.size : Int) + (t.size : Int)) = false) (zA : s.size + t.size ≤ 9223372036854775807) (z0 : (s.size : Int) + (t.size : Int) ≤ 100000) (z1 : Hid (s.size < 140737488355328)) (z2 : Hid (t.size < 140737488355328)) (z3 : Hid ((s ++ t).size < 140737488355328))
    (T1 : textsB (bl s) = true) (T2 : textsB (bl t) = false) (T3 : textsB (bl (s ++ t)) = false) (B1 : blankB (bl s) = true) (B2 : blankB (bl t) = true) (B3 : blankB (bl (s ++ t)) = true) (N1 : nameB (bl s) = true) (N2 : nameB (bl t) = false) (N3 : nameB (bl (s ++ t)) = false) : Calls Tryd.prog 7 #[.string s, .string t] w fun e w' => e = .returned (.bool true) ∧ Fr [] w w' := by
  have g := Fr.refl [] w
  go_enter Tryd.func7, Tryd.ntmps7
  go_wp2_with (first
    | (go_at_call 14; refine (awake_any _ (HL.out.kept g)).mono ?_; rintro e w5 ⟨rfl, f5⟩; replace g := g.trans f5; clear f5)
    | (go_at_call 15; refine (name_any _ (HL.out.kept g) _).mono ?_; rintro e w5 ⟨rfl, f5⟩; replace g := g.trans f5; clear f5)
    | (go_at_call 17; refine (texts_any _ (HL.out.kept g) _ (by first | exact z1.out | exact z2.out | exact z3.out)).mono ?_; rintro e w5 ⟨rfl, f5⟩; replace g := g.trans f5; clear f5)
    | (go_at_call 19; refine (blank_any _ _ (by first | exact z1.out | exact z2.out | exact z3.out)).mono ?_; rintro e w5 ⟨rfl, f5⟩; replace g := g.trans f5; clear f5))
  go_ret
  exact ⟨rfl, g⟩
set_option maxHeartbeats 4000000 in
set_option maxRecDepth 100000 in
theorem joined_1002d (w : World) (HL : Hid (LaidC w)) (s t : ByteArray) (e1 : decide (100000 < (s.size : Int) + (t.size : Int)) = false) (zA : s.size + t.size ≤ 9223372036854775807) (z0 : (s.size : Int) + (t.size : Int) ≤ 100000) (z1 : Hid (s.size < 140737488355328)) (z2 : Hid (t.size < 140737488355328)) (z3 : Hid ((s ++ t).size < 140737488355328))
    (T1 : textsB (bl s) = true) (T2 : textsB (bl t) = false) (T3 : textsB (bl (s ++ t)) = false) (B1 : blankB (bl s) = true) (B2 : blankB (bl t) = true) (B3 : blankB (bl (s ++ t)) = true) (N1 : nameB (bl s) = true) (N2 : nameB (bl t) = false) (N3 : nameB (bl (s ++ t)) = true) (E : ¬ s.toList = []) : Calls Tryd.prog 7 #[.string s, .string t] w fun e w' => e = .returned (.bool true) ∧ Fr [] w w' := by
  have g := Fr.refl [] w
  go_enter Tryd.func7, Tryd.ntmps7
  go_wp2_with (first
    | (go_at_call 14; refine (awake_any _ (HL.out.kept g)).mono ?_; rintro e w5 ⟨rfl, f5⟩; replace g := g.trans f5; clear f5)
    | (go_at_call 15; refine (name_any _ (HL.out.kept g) _).mono ?_; rintro e w5 ⟨rfl, f5⟩; replace g := g.trans f5; clear f5)
    | (go_at_call 17; refine (texts_any _ (HL.out.kept g) _ (by first | exact z1.out | exact z2.out | exact z3.out)).mono ?_; rintro e w5 ⟨rfl, f5⟩; replace g := g.trans f5; clear f5)
    | (go_at_call 19; refine (blank_any _ _ (by first | exact z1.out | exact z2.out | exact z3.out)).mono ?_; rintro e w5 ⟨rfl, f5⟩; replace g := g.trans f5; clear f5))
  go_ret
  exact ⟨rfl, g⟩
set_option maxHeartbeats 4000000 in
set_option maxRecDepth 100000 in
theorem joined_1002e (w : World) (HL : Hid (LaidC w)) (s t : ByteArray) (e1 : decide (100000 < (s.size : Int) + (t.size : Int)) = false) (zA : s.size + t.size ≤ 9223372036854775807) (z0 : (s.size : Int) + (t.size : Int) ≤ 100000) (z1 : Hid (s.size < 140737488355328)) (z2 : Hid (t.size < 140737488355328)) (z3 : Hid ((s ++ t).size < 140737488355328))
    (T1 : textsB (bl s) = true) (T2 : textsB (bl t) = false) (T3 : textsB (bl (s ++ t)) = false) (B1 : blankB (bl s) = true) (B2 : blankB (bl t) = true) (B3 : blankB (bl (s ++ t)) = true) (N1 : nameB (bl s) = true) (N2 : nameB (bl t) = true) (N3 : nameB (bl (s ++ t)) = false) (d1 : decide ((s.size : Int) + (t.size : Int) ≤ 100) = false) : Calls Tryd.prog 7 #[.string s, .string t] w fun e w' => e = .returned (.bool true) ∧ Fr [] w w' := by
  have g := Fr.refl [] w
  go_enter Tryd.func7, Tryd.ntmps7
  go_wp2_with (first
    | (go_at_call 14; refine (awake_any _ (HL.out.kept g)).mono ?_; rintro e w5 ⟨rfl, f5⟩; replace g := g.trans f5; clear f5)
    | (go_at_call 15; refine (name_any _ (HL.out.kept g) _).mono ?_; rintro e w5 ⟨rfl, f5⟩; replace g := g.trans f5; clear f5)
    | (go_at_call 17; refine (texts_any _ (HL.out.kept g) _ (by first | exact z1.out | exact z2.out | exact z3.out)).mono ?_; rintro e w5 ⟨rfl, f5⟩; replace g := g.trans f5; clear f5)
    | (go_at_call 19; refine (blank_any _ _ (by first | exact z1.out | exact z2.out | exact z3.out)).mono ?_; rintro e w5 ⟨rfl, f5⟩; replace g := g.trans f5; clear f5))
  go_ret
  exact ⟨rfl, g⟩
set_option maxHeartbeats 4000000 in
set_option maxRecDepth 100000 in
theorem joined_1002f (w : World) (HL : Hid (LaidC w)) (s t : ByteArray) (e1 : decide (100000 < (s.size : Int) + (t.size : Int)) = false) (zA : s.size + t.size ≤ 9223372036854775807) (z0 : (s.size : Int) + (t.size : Int) ≤ 100000) (z1 : Hid (s.size < 140737488355328)) (z2 : Hid (t.size < 140737488355328)) (z3 : Hid ((s ++ t).size < 140737488355328))
    (T1 : textsB (bl s) = true) (T2 : textsB (bl t) = false) (T3 : textsB (bl (s ++ t)) = false) (B1 : blankB (bl s) = true) (B2 : blankB (bl t) = true) (B3 : blankB (bl (s ++ t)) = true) (N1 : nameB (bl s) = true) (N2 : nameB (bl t) = true) (N3 : nameB (bl (s ++ t)) = true) (d1 : decide ((s.size : Int) + (t.size : Int) ≤ 100) = true) (E : ¬ s.toList = []) : Calls Tryd.prog 7 #[.string s, .string t] w fun e w' => e = .returned (.bool true) ∧ Fr [] w w' := by
  have g := Fr.refl [] w
  go_enter Tryd.func7, Tryd.ntmps7
  go_wp2_with (first
    | (go_at_call 14; refine (awake_any _ (HL.out.kept g)).mono ?_; rintro e w5 ⟨rfl, f5⟩; replace g := g.trans f5; clear f5)
    | (go_at_call 15; refine (name_any _ (HL.out.kept g) _).mono ?_; rintro e w5 ⟨rfl, f5⟩; replace g := g.trans f5; clear f5)
    | (go_at_call 17; refine (texts_any _ (HL.out.kept g) _ (by first | exact z1.out | exact z2.out | exact z3.out)).mono ?_; rintro e w5 ⟨rfl, f5⟩; replace g := g.trans f5; clear f5)
    | (go_at_call 19; refine (blank_any _ _ (by first | exact z1.out | exact z2.out | exact z3.out)).mono ?_; rintro e w5 ⟨rfl, f5⟩; replace g := g.trans f5; clear f5))
  go_ret
  exact ⟨rfl, g⟩
set_option maxHeartbeats 4000000 in
set_option maxRecDepth 100000 in
theorem joined_0100a (w : World) (HL : Hid (LaidC w)) (s t : ByteArray) (e1 : decide (100000 < (s.size : Int) + (t.size : Int)) = false) (zA : s.size + t.size ≤ 9223372036854775807) (z0 : (s.size : Int) + (t.size : Int) ≤ 100000) (z1 : Hid (s.size < 140737488355328)) (z2 : Hid (t.size < 140737488355328)) (z3 : Hid ((s ++ t).size < 140737488355328))
    (T1 : textsB (bl s) = false) (T2 : textsB (bl t) = true) (T3 : textsB (bl (s ++ t)) = false) (B1 : blankB (bl s) = false) (B3 : blankB (bl (s ++ t)) = false) (N1 : nameB (bl s) = false) (N3 : nameB (bl (s ++ t)) = false) : Calls Tryd.prog 7 #[.string s, .string t] w fun e w' => e = .returned (.bool true) ∧ Fr [] w w' := by
  have g := Fr.refl [] w
  go_enter Tryd.func7, Tryd.ntmps7
  go_wp2_with (first
    | (go_at_call 14; refine (awake_any _ (HL.out.kept g)).mono ?_; rintro e w5 ⟨rfl, f5⟩; replace g := g.trans f5; clear f5)
    | (go_at_call 15; refine (name_any _ (HL.out.kept g) _).mono ?_; rintro e w5 ⟨rfl, f5⟩; replace g := g.trans f5; clear f5)
    | (go_at_call 17; refine (texts_any _ (HL.out.kept g) _ (by first | exact z1.out | exact z2.out | exact z3.out)).mono ?_; rintro e w5 ⟨rfl, f5⟩; replace g := g.trans f5; clear f5)
    | (go_at_call 19; refine (blank_any _ _ (by first | exact z1.out | exact z2.out | exact z3.out)).mono ?_; rintro e w5 ⟨rfl, f5⟩; replace g := g.trans f5; clear f5))
  go_ret
  exact ⟨rfl, g⟩
set_option maxHeartbeats 4000000 in
set_option maxRecDepth 100000 in
theorem joined_0100g (w : World) (HL : Hid (LaidC w)) (s t : ByteArray) (e1 : decide (100000 < (s.size : Int) + (t.size : Int)) = false) (zA : s.size + t.size ≤ 9223372036854775807) (z0 : (s.size : Int) + (t.size : Int) ≤ 100000) (z1 : Hid (s.size < 140737488355328)) (z2 : Hid (t.size < 140737488355328)) (z3 : Hid ((s ++ t).size < 140737488355328))
    (T1 : textsB (bl s) = false) (T2 : textsB (bl t) = true) (T3 : textsB (bl (s ++ t)) = false) (B1 : blankB (bl s) = false) (B3 : blankB (bl (s ++ t)) = false) (N1 : nameB (bl s) = false) (N3 : nameB (bl (s ++ t)) = true) (E : ¬ s.toList = []) : Calls Tryd.prog 7 #[.string s, .string t] w fun e w' => e = .returned (.bool true) ∧ Fr [] w w' := by
  have g := Fr.refl [] w
  go_enter Tryd.func7, Tryd.ntmps7
  go_wp2_with (first
    | (go_at_call 14; refine (awake_any _ (HL.out.kept g)).mono ?_; rintro e w5 ⟨rfl, f5⟩; replace g := g.trans f5; clear f5)
    | (go_at_call 15; refine (name_any _ (HL.out.kept g) _).mono ?_; rintro e w5 ⟨rfl, f5⟩; replace g := g.trans f5; clear f5)
    | (go_at_call 17; refine (texts_any _ (HL.out.kept g) _ (by first | exact z1.out | exact z2.out | exact z3.out)).mono ?_; rintro e w5 ⟨rfl, f5⟩; replace g := g.trans f5; clear f5)
    | (go_at_call 19; refine (blank_any _ _ (by first | exact z1.out | exact z2.out | exact z3.out)).mono ?_; rintro e w5 ⟨rfl, f5⟩; replace g := g.trans f5; clear f5))
  go_ret
  exact ⟨rfl, g⟩
set_option maxHeartbeats 4000000 in
set_option maxRecDepth 100000 in
theorem joined_0000a (w : World) (HL : Hid (LaidC w)) (s t : ByteArray) (e1 : decide (100000 < (s.size : Int) + (t.size : Int)) = false) (zA : s.size + t.size ≤ 9223372036854775807) (z0 : (s.size : Int) + (t.size : Int) ≤ 100000) (z1 : Hid (s.size < 140737488355328)) (z2 : Hid (t.size < 140737488355328)) (z3 : Hid ((s ++ t).size < 140737488355328))
    (T1 : textsB (bl s) = false) (T2 : textsB (bl t) = false) (T3 : textsB (bl (s ++ t)) = false) (B1 : blankB (bl s) = false) (B3 : blankB (bl (s ++ t)) = false) (N1 : nameB (bl s) = false) (N3 : nameB (bl (s ++ t)) = false) : Calls Tryd.prog 7 #[.string s, .string t] w fun e w' => e = .returned (.bool true) ∧ Fr [] w w' := by
  have g := Fr.refl [] w
  go_enter Tryd.func7, Tryd.ntmps7
  go_wp2_with (first
    | (go_at_call 14; refine (awake_any _ (HL.out.kept g)).mono ?_; rintro e w5 ⟨rfl, f5⟩; replace g := g.trans f5; clear f5)
    | (go_at_call 15; refine (name_any _ (HL.out.kept g) _).mono ?_; rintro e w5 ⟨rfl, f5⟩; replace g := g.trans f5; clear f5)
    | (go_at_call 17; refine (texts_any _ (HL.out.kept g) _ (by first | exact z1.out | exact z2.out | exact z3.out)).mono ?_; rintro e w5 ⟨rfl, f5⟩; replace g := g.trans f5; clear f5)
    | (go_at_call 19; refine (blank_any _ _ (by first | exact z1.out | exact z2.out | exact z3.out)).mono ?_; rintro e w5 ⟨rfl, f5⟩; replace g := g.trans f5; clear f5))
  go_ret
  exact ⟨rfl, g⟩
set_option maxHeartbeats 4000000 in
set_option maxRecDepth 100000 in
theorem joined_0000g (w : World) (HL : Hid (LaidC w)) (s t : ByteArray) (e1 : decide (100000 < (s.size : Int) + (t.size : Int)) = false) (zA : s.size + t.size ≤ 9223372036854775807) (z0 : (s.size : Int) + (t.size : Int) ≤ 100000) (z1 : Hid (s.size < 140737488355328)) (z2 : Hid (t.size < 140737488355328)) (z3 : Hid ((s ++ t).size < 140737488355328))
    (T1 : textsB (bl s) = false) (T2 : textsB (bl t) = false) (T3 : textsB (bl (s ++ t)) = false) (B1 : blankB (bl s) = false) (B3 : blankB (bl (s ++ t)) = false) (N1 : nameB (bl s) = false) (N3 : nameB (bl (s ++ t)) = true) (E : ¬ s.toList = []) : Calls Tryd.prog 7 #[.string s, .string t] w fun e w' => e = .returned (.bool true) ∧ Fr [] w w' := by
  have g := Fr.refl [] w
  go_enter Tryd.func7, Tryd.ntmps7
  go_wp2_with (first
    | (go_at_call 14; refine (awake_any _ (HL.out.kept g)).mono ?_; rintro e w5 ⟨rfl, f5⟩; replace g := g.trans f5; clear f5)
    | (go_at_call 15; refine (name_any _ (HL.out.kept g) _).mono ?_; rintro e w5 ⟨rfl, f5⟩; replace g := g.trans f5; clear f5)
    | (go_at_call 17; refine (texts_any _ (HL.out.kept g) _ (by first | exact z1.out | exact z2.out | exact z3.out)).mono ?_; rintro e w5 ⟨rfl, f5⟩; replace g := g.trans f5; clear f5)
    | (go_at_call 19; refine (blank_any _ _ (by first | exact z1.out | exact z2.out | exact z3.out)).mono ?_; rintro e w5 ⟨rfl, f5⟩; replace g := g.trans f5; clear f5))
  go_ret
  exact ⟨rfl, g⟩
set_option maxHeartbeats 4000000 in
set_option maxRecDepth 100000 in
theorem joined_0010a (w : World) (HL : Hid (LaidC w)) (s t : ByteArray) (e1 : decide (100000 < (s.size : Int) + (t.size : Int)) = false) (zA : s.size + t.size ≤ 9223372036854775807) (z0 : (s.size : Int) + (t.size : Int) ≤ 100000) (z1 : Hid (s.size < 140737488355328)) (z2 : Hid (t.size < 140737488355328)) (z3 : Hid ((s ++ t).size < 140737488355328))
    (T1 : textsB (bl s) = false) (T2 : textsB (bl t) = false) (T3 : textsB (bl (s ++ t)) = true) (B1 : blankB (bl s) = false) (B3 : blankB (bl (s ++ t)) = false) (N1 : nameB (bl s) = false) (N3 : nameB (bl (s ++ t)) = false) : Calls Tryd.prog 7 #[.string s, .string t] w fun e w' => e = .returned (.bool true) ∧ Fr [] w w' := by
  have g := Fr.refl [] w
  go_enter Tryd.func7, Tryd.ntmps7
  go_wp2_with (first
    | (go_at_call 14; refine (awake_any _ (HL.out.kept g)).mono ?_; rintro e w5 ⟨rfl, f5⟩; replace g := g.trans f5; clear f5)
    | (go_at_call 15; refine (name_any _ (HL.out.kept g) _).mono ?_; rintro e w5 ⟨rfl, f5⟩; replace g := g.trans f5; clear f5)
    | (go_at_call 17; refine (texts_any _ (HL.out.kept g) _ (by first | exact z1.out | exact z2.out | exact z3.out)).mono ?_; rintro e w5 ⟨rfl, f5⟩; replace g := g.trans f5; clear f5)
    | (go_at_call 19; refine (blank_any _ _ (by first | exact z1.out | exact z2.out | exact z3.out)).mono ?_; rintro e w5 ⟨rfl, f5⟩; replace g := g.trans f5; clear f5))
  go_ret
  exact ⟨rfl, g⟩
set_option maxHeartbeats 4000000 in
set_option maxRecDepth 100000 in
theorem joined_0010g (w : World) (HL : Hid (LaidC w)) (s t : ByteArray) (e1 : decide (100000 < (s.size : Int) + (t.size : Int)) = false) (zA : s.size + t.size ≤ 9223372036854775807) (z0 : (s.size : Int) + (t.size : Int) ≤ 100000) (z1 : Hid (s.size < 140737488355328)) (z2 : Hid (t.size < 140737488355328)) (z3 : Hid ((s ++ t).size < 140737488355328))
    (T1 : textsB (bl s) = false) (T2 : textsB (bl t) = false) (T3 : textsB (bl (s ++ t)) = true) (B1 : blankB (bl s) = false) (B3 : blankB (bl (s ++ t)) = false) (N1 : nameB (bl s) = false) (N3 : nameB (bl (s ++ t)) = true) (E : ¬ s.toList = []) : Calls Tryd.prog 7 #[.string s, .string t] w fun e w' => e = .returned (.bool true) ∧ Fr [] w w' := by
  have g := Fr.refl [] w
  go_enter Tryd.func7, Tryd.ntmps7
  go_wp2_with (first
    | (go_at_call 14; refine (awake_any _ (HL.out.kept g)).mono ?_; rintro e w5 ⟨rfl, f5⟩; replace g := g.trans f5; clear f5)
    | (go_at_call 15; refine (name_any _ (HL.out.kept g) _).mono ?_; rintro e w5 ⟨rfl, f5⟩; replace g := g.trans f5; clear f5)
    | (go_at_call 17; refine (texts_any _ (HL.out.kept g) _ (by first | exact z1.out | exact z2.out | exact z3.out)).mono ?_; rintro e w5 ⟨rfl, f5⟩; replace g := g.trans f5; clear f5)
    | (go_at_call 19; refine (blank_any _ _ (by first | exact z1.out | exact z2.out | exact z3.out)).mono ?_; rintro e w5 ⟨rfl, f5⟩; replace g := g.trans f5; clear f5))
  go_ret
  exact ⟨rfl, g⟩
end Go.Proofs.YtmhfbkafcpceiaaDoor
