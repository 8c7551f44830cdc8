/-
  CharsJoined.
-/
import Derived.Test.YtmhfbkafcpceiaaDoorCAwake
namespace Go.Proofs.YtmhfbkafcpceiaaDoor
open Go.RowKit Go.Maps
set_option linter.unusedVariables false

set_option maxHeartbeats 4000000 in
set_option maxRecDepth 100000 in
theorem joined_1110a (w : World) (HL : Hid (LaidC w)) (s t : ByteArray) (e1 : decide (100000 < (s.size : Int) + (t.size : Int)) = false) (zA : s.size + t.size ≤ 9223372036854775807) (z0 : (s.size : Int) + (t.size : Int) ≤ 100000) (z1 : Hid (s.size < 140737488355328)) (z2 : Hid (t.size < 140737488355328)) (z3 : Hid ((s ++ t).size < 140737488355328))
    (T1 : textsB (bl s) = true) (T2 : textsB (bl t) = true) (T3 : textsB (bl (s ++ t)) = true) (B1 : blankB (bl s) = false) (B3 : blankB (bl (s ++ t)) = false) (N1 : nameB (bl s) = false) (N3 : nameB (bl (s ++ t)) = false) : Calls Tryd.prog 7 #[.string s, .string t] w fun e w' => e = .returned (.bool true) ∧ Fr [] w w' := by
  have g := Fr.refl [] w
  go_enter Tryd.func7, Tryd.ntmps7
  go_wp2_with (first
    | (go_at_call 14; refine (awake_any _ (HL.out.kept g)).mono ?_; rintro e w5 ⟨rfl, f5⟩; replace g := g.trans f5; clear f5)
    | (go_at_call 15; refine (name_any _ (HL.out.kept g) _).mono ?_; rintro e w5 ⟨rfl, f5⟩; replace g := g.trans f5; clear f5)
    | (go_at_call 17; refine (texts_any _ (HL.out.kept g) _ (by first | exact z1.out | exact z2.out | exact z3.out)).mono ?_; rintro e w5 ⟨rfl, f5⟩; replace g := g.trans f5; clear f5)
    | (go_at_call 19; refine (blank_any _ _ (by first | exact z1.out | exact z2.out | exact z3.out)).mono ?_; rintro e w5 ⟨rfl, f5⟩; replace g := g.trans f5; clear f5))
  go_ret
  exact ⟨rfl, g⟩
set_option maxHeartbeats 4000000 in
set_option maxRecDepth 100000 in
theorem joined_1110b (w : World) (HL : Hid (LaidC w)) (s t : ByteArray) (e1 : decide (100000 < (s.size : Int) + (t.size : Int)) = false) (zA : s.size + t.size ≤ 9223372036854775807) (z0 : (s.size : Int) + (t.size : Int) ≤ 100000) (z1 : Hid (s.size < 140737488355328)) (z2 : Hid (t.size < 140737488355328)) (z3 : Hid ((s ++ t).size < 140737488355328))
    (T1 : textsB (bl s) = true) (T2 : textsB (bl t) = true) (T3 : textsB (bl (s ++ t)) = true) (B1 : blankB (bl s) = false) (B3 : blankB (bl (s ++ t)) = false) (N1 : nameB (bl s) = false) (N3 : nameB (bl (s ++ t)) = true) (E : s.toList = []) : Calls Tryd.prog 7 #[.string s, .string t] w fun e w' => e = .returned (.bool true) ∧ Fr [] w w' := by
  have g := Fr.refl [] w
  go_enter Tryd.func7, Tryd.ntmps7
  go_wp2_with (first
    | (go_at_call 14; refine (awake_any _ (HL.out.kept g)).mono ?_; rintro e w5 ⟨rfl, f5⟩; replace g := g.trans f5; clear f5)
    | (go_at_call 15; refine (name_any _ (HL.out.kept g) _).mono ?_; rintro e w5 ⟨rfl, f5⟩; replace g := g.trans f5; clear f5)
    | (go_at_call 17; refine (texts_any _ (HL.out.kept g) _ (by first | exact z1.out | exact z2.out | exact z3.out)).mono ?_; rintro e w5 ⟨rfl, f5⟩; replace g := g.trans f5; clear f5)
    | (go_at_call 19; refine (blank_any _ _ (by first | exact z1.out | exact z2.out | exact z3.out)).mono ?_; rintro e w5 ⟨rfl, f5⟩; replace g := g.trans f5; clear f5))
  go_ret
  exact ⟨rfl, g⟩
set_option maxHeartbeats 4000000 in
set_option maxRecDepth 100000 in
theorem joined_1110c (w : World) (HL : Hid (LaidC w)) (s t : ByteArray) (e1 : decide (100000 < (s.size : Int) + (t.size : Int)) = false) (zA : s.size + t.size ≤ 9223372036854775807) (z0 : (s.size : Int) + (t.size : Int) ≤ 100000) (z1 : Hid (s.size < 140737488355328)) (z2 : Hid (t.size < 140737488355328)) (z3 : Hid ((s ++ t).size < 140737488355328))
    (T1 : textsB (bl s) = true) (T2 : textsB (bl t) = true) (T3 : textsB (bl (s ++ t)) = true) (B1 : blankB (bl s) = false) (B3 : blankB (bl (s ++ t)) = false) (N1 : nameB (bl s) = true) (N2 : nameB (bl t) = false) (N3 : nameB (bl (s ++ t)) = false) : Calls Tryd.prog 7 #[.string s, .string t] w fun e w' => e = .returned (.bool true) ∧ Fr [] w w' := by
  have g := Fr.refl [] w
  go_enter Tryd.func7, Tryd.ntmps7
  go_wp2_with (first
    | (go_at_call 14; refine (awake_any _ (HL.out.kept g)).mono ?_; rintro e w5 ⟨rfl, f5⟩; replace g := g.trans f5; clear f5)
    | (go_at_call 15; refine (name_any _ (HL.out.kept g) _).mono ?_; rintro e w5 ⟨rfl, f5⟩; replace g := g.trans f5; clear f5)
    | (go_at_call 17; refine (texts_any _ (HL.out.kept g) _ (by first | exact z1.out | exact z2.out | exact z3.out)).mono ?_; rintro e w5 ⟨rfl, f5⟩; replace g := g.trans f5; clear f5)
    | (go_at_call 19; refine (blank_any _ _ (by first | exact z1.out | exact z2.out | exact z3.out)).mono ?_; rintro e w5 ⟨rfl, f5⟩; replace g := g.trans f5; clear f5))
  go_ret
  exact ⟨rfl, g⟩
set_option maxHeartbeats 4000000 in
set_option maxRecDepth 100000 in
theorem joined_1110d (w : World) (HL : Hid (LaidC w)) (s t : ByteArray) (e1 : decide (100000 < (s.size : Int) + (t.size : Int)) = false) (zA : s.size + t.size ≤ 9223372036854775807) (z0 : (s.size : Int) + (t.size : Int) ≤ 100000) (z1 : Hid (s.size < 140737488355328)) (z2 : Hid (t.size < 140737488355328)) (z3 : Hid ((s ++ t).size < 140737488355328))
    (T1 : textsB (bl s) = true) (T2 : textsB (bl t) = true) (T3 : textsB (bl (s ++ t)) = true) (B1 : blankB (bl s) = false) (B3 : blankB (bl (s ++ t)) = false) (N1 : nameB (bl s) = true) (N2 : nameB (bl t) = false) (N3 : nameB (bl (s ++ t)) = true) (E : ¬ s.toList = []) : Calls Tryd.prog 7 #[.string s, .string t] w fun e w' => e = .returned (.bool true) ∧ Fr [] w w' := by
  have g := Fr.refl [] w
  go_enter Tryd.func7, Tryd.ntmps7
  go_wp2_with (first
    | (go_at_call 14; refine (awake_any _ (HL.out.kept g)).mono ?_; rintro e w5 ⟨rfl, f5⟩; replace g := g.trans f5; clear f5)
    | (go_at_call 15; refine (name_any _ (HL.out.kept g) _).mono ?_; rintro e w5 ⟨rfl, f5⟩; replace g := g.trans f5; clear f5)
    | (go_at_call 17; refine (texts_any _ (HL.out.kept g) _ (by first | exact z1.out | exact z2.out | exact z3.out)).mono ?_; rintro e w5 ⟨rfl, f5⟩; replace g := g.trans f5; clear f5)
    | (go_at_call 19; refine (blank_any _ _ (by first | exact z1.out | exact z2.out | exact z3.out)).mono ?_; rintro e w5 ⟨rfl, f5⟩; replace g := g.trans f5; clear f5))
  go_ret
  exact ⟨rfl, g⟩
set_option maxHeartbeats 4000000 in
set_option maxRecDepth 100000 in
theorem joined_1110e (w : World) (HL : Hid (LaidC w)) (s t : ByteArray) (e1 : decide (100000 < (s.size : Int) + (t.size : Int)) = false) (zA : s.size + t.size ≤ 9223372036854775807) (z0 : (s.size : Int) + (t.size : Int) ≤ 100000) (z1 : Hid (s.size < 140737488355328)) (z2 : Hid (t.size < 140737488355328)) (z3 : Hid ((s ++ t).size < 140737488355328))
    (T1 : textsB (bl s) = true) (T2 : textsB (bl t) = true) (T3 : textsB (bl (s ++ t)) = true) (B1 : blankB (bl s) = false) (B3 : blankB (bl (s ++ t)) = false) (N1 : nameB (bl s) = true) (N2 : nameB (bl t) = true) (N3 : nameB (bl (s ++ t)) = false) (d1 : decide ((s.size : Int) + (t.size : Int) ≤ 100) = false) : Calls Tryd.prog 7 #[.string s, .string t] w fun e w' => e = .returned (.bool true) ∧ Fr [] w w' := by
  have g := Fr.refl [] w
  go_enter Tryd.func7, Tryd.ntmps7
  go_wp2_with (first
    | (go_at_call 14; refine (awake_any _ (HL.out.kept g)).mono ?_; rintro e w5 ⟨rfl, f5⟩; replace g := g.trans f5; clear f5)
    | (go_at_call 15; refine (name_any _ (HL.out.kept g) _).mono ?_; rintro e w5 ⟨rfl, f5⟩; replace g := g.trans f5; clear f5)
    | (go_at_call 17; refine (texts_any _ (HL.out.kept g) _ (by first | exact z1.out | exact z2.out | exact z3.out)).mono ?_; rintro e w5 ⟨rfl, f5⟩; replace g := g.trans f5; clear f5)
    | (go_at_call 19; refine (blank_any _ _ (by first | exact z1.out | exact z2.out | exact z3.out)).mono ?_; rintro e w5 ⟨rfl, f5⟩; replace g := g.trans f5; clear f5))
  go_ret
  exact ⟨rfl, g⟩
set_option maxHeartbeats 4000000 in
set_option maxRecDepth 100000 in
theorem joined_1110f (w : World) (HL : Hid (LaidC w)) (s t : ByteArray) (e1 : decide (100000 < (s.size : Int) + (t.size : Int)) = false) (zA : s.size + t.size ≤ 9223372036854775807) (z0 : (s.size : Int) + (t.size : Int) ≤ 100000) (z1 : Hid (s.size < 140737488355328)) (z2 : Hid (t.size < 140737488355328)) (z3 : Hid ((s ++ t).size < 140737488355328))
    (T1 : textsB (bl s) = true) (T2 : textsB (bl t) = true) (T3 : textsB (bl (s ++ t)) = true) (B1 : blankB (bl s) = false) (B3 : blankB (bl (s ++ t)) = false) (N1 : nameB (bl s) = true) (N2 : nameB (bl t) = true) (N3 : nameB (bl (s ++ t)) = true) (d1 : decide ((s.size : Int) + (t.size : Int) ≤ 100) = true) (E : ¬ s.toList = []) : Calls Tryd.prog 7 #[.string s, .string t] w fun e w' => e = .returned (.bool true) ∧ Fr [] w w' := by
  have g := Fr.refl [] w
  go_enter Tryd.func7, Tryd.ntmps7
  go_wp2_with (first
    | (go_at_call 14; refine (awake_any _ (HL.out.kept g)).mono ?_; rintro e w5 ⟨rfl, f5⟩; replace g := g.trans f5; clear f5)
    | (go_at_call 15; refine (name_any _ (HL.out.kept g) _).mono ?_; rintro e w5 ⟨rfl, f5⟩; replace g := g.trans f5; clear f5)
    | (go_at_call 17; refine (texts_any _ (HL.out.kept g) _ (by first | exact z1.out | exact z2.out | exact z3.out)).mono ?_; rintro e w5 ⟨rfl, f5⟩; replace g := g.trans f5; clear f5)
    | (go_at_call 19; refine (blank_any _ _ (by first | exact z1.out | exact z2.out | exact z3.out)).mono ?_; rintro e w5 ⟨rfl, f5⟩; replace g := g.trans f5; clear f5))
  go_ret
  exact ⟨rfl, g⟩
set_option maxHeartbeats 4000000 in
set_option maxRecDepth 100000 in
theorem joined_1111a (w : World) (HL : Hid (LaidC w)) (s t : ByteArray) (e1 : decide (100000 < (s.size : Int) + (t.size : Int)) = false) (zA : s.size + t.size ≤ 9223372036854775807) (z0 : (s.size : Int) + (t.size : Int) ≤ 100000) (z1 : Hid (s.size < 140737488355328)) (z2 : Hid (t.size < 140737488355328)) (z3 : Hid ((s ++ t).size < 140737488355328))
    (T1 : textsB (bl s) = true) (T2 : textsB (bl t) = true) (T3 : textsB (bl (s ++ t)) = true) (B1 : blankB (bl s) = true) (B2 : blankB (bl t) = false) (B3 : blankB (bl (s ++ t)) = false) (N1 : nameB (bl s) = false) (N3 : nameB (bl (s ++ t)) = false) : Calls Tryd.prog 7 #[.string s, .string t] w fun e w' => e = .returned (.bool true) ∧ Fr [] w w' := by
  have g := Fr.refl [] w
  go_enter Tryd.func7, Tryd.ntmps7
  go_wp2_with (first
    | (go_at_call 14; refine (awake_any _ (HL.out.kept g)).mono ?_; rintro e w5 ⟨rfl, f5⟩; replace g := g.trans f5; clear f5)
    | (go_at_call 15; refine (name_any _ (HL.out.kept g) _).mono ?_; rintro e w5 ⟨rfl, f5⟩; replace g := g.trans f5; clear f5)
    | (go_at_call 17; refine (texts_any _ (HL.out.kept g) _ (by first | exact z1.out | exact z2.out | exact z3.out)).mono ?_; rintro e w5 ⟨rfl, f5⟩; replace g := g.trans f5; clear f5)
    | (go_at_call 19; refine (blank_any _ _ (by first | exact z1.out | exact z2.out | exact z3.out)).mono ?_; rintro e w5 ⟨rfl, f5⟩; replace g := g.trans f5; clear f5))
  go_ret
  exact ⟨rfl, g⟩
set_option maxHeartbeats 4000000 in
set_option maxRecDepth 100000 in
theorem joined_1111b (w : World) (HL : Hid (LaidC w)) (s t : ByteArray) (e1 : decide (100000 < (s.size : Int) + (t.size : Int)) = false) (zA : s.size + t.size ≤ 9223372036854775807) (z0 : (s.size : Int) + (t.size : Int) ≤ 100000) (z1 : Hid (s.size < 140737488355328)) (z2 : Hid (t.size < 140737488355328)) (z3 : Hid ((s ++ t).size < 140737488355328))
    (T1 : textsB (bl s) = true) (T2 : textsB (bl t) = true) (T3 : textsB (bl (s ++ t)) = true) (B1 : blankB (bl s) = true) (B2 : blankB (bl t) = false) (B3 : blankB (bl (s ++ t)) = false) (N1 : nameB (bl s) = false) (N3 : nameB (bl (s ++ t)) = true) (E : s.toList = []) : Calls Tryd.prog 7 #[.string s, .string t] w fun e w' => e = .returned (.bool true) ∧ Fr [] w w' := by
  have g := Fr.refl [] w
  go_enter Tryd.func7, Tryd.ntmps7
  go_wp2_with (first
    | (go_at_call 14; refine (awake_any _ (HL.out.kept g)).mono ?_; rintro e w5 ⟨rfl, f5⟩; replace g := g.trans f5; clear f5)
    | (go_at_call 15; refine (name_any _ (HL.out.kept g) _).mono ?_; rintro e w5 ⟨rfl, f5⟩; replace g := g.trans f5; clear f5)
    | (go_at_call 17; refine (texts_any _ (HL.out.kept g) _ (by first | exact z1.out | exact z2.out | exact z3.out)).mono ?_; rintro e w5 ⟨rfl, f5⟩; replace g := g.trans f5; clear f5)
    | (go_at_call 19; refine (blank_any _ _ (by first | exact z1.out | exact z2.out | exact z3.out)).mono ?_; rintro e w5 ⟨rfl, f5⟩; replace g := g.trans f5; clear f5))
  go_ret
  exact ⟨rfl, g⟩
set_option maxHeartbeats 4000000 in
set_option maxRecDepth 100000 in
theorem joined_1111c (w : World) (HL : Hid (LaidC w)) (s t : ByteArray) (e1 : decide (100000 < (s.size : Int) + (t.size : Int)) = false) (zA : s.size + t.size ≤ 9223372036854775807) (z0 : (s.size : Int) + (t.size : Int) ≤ 100000) (z1 : Hid (s.size < 140737488355328)) (z2 : Hid (t.size < 140737488355328)) (z3 : Hid ((s ++ t).size < 140737488355328))
    (T1 : textsB (bl s) = true) (T2 : textsB (bl t) = true) (T3 : textsB (bl (s ++ t)) = true) (B1 : blankB (bl s) = true) (B2 : blankB (bl t) = false) (B3 : blankB (bl (s ++ t)) = false) (N1 : nameB (bl s) = true) (N2 : nameB (bl t) = false) (N3 : nameB (bl (s ++ t)) = false) : Calls Tryd.prog 7 #[.string s, .string t] w fun e w' => e = .returned (.bool true) ∧ Fr [] w w' := by
  have g := Fr.refl [] w
  go_enter Tryd.func7, Tryd.ntmps7
  go_wp2_with (first
    | (go_at_call 14; refine (awake_any _ (HL.out.kept g)).mono ?_; rintro e w5 ⟨rfl, f5⟩; replace g := g.trans f5; clear f5)
    | (go_at_call 15; refine (name_any _ (HL.out.kept g) _).mono ?_; rintro e w5 ⟨rfl, f5⟩; replace g := g.trans f5; clear f5)
    | (go_at_call 17; refine (texts_any _ (HL.out.kept g) _ (by first | exact z1.out | exact z2.out | exact z3.out)).mono ?_; rintro e w5 ⟨rfl, f5⟩; replace g := g.trans f5; clear f5)
    | (go_at_call 19; refine (blank_any _ _ (by first | exact z1.out | exact z2.out | exact z3.out)).mono ?_; rintro e w5 ⟨rfl, f5⟩; replace g := g.trans f5; clear f5))
  go_ret
  exact ⟨rfl, g⟩
set_option maxHeartbeats 4000000 in
set_option maxRecDepth 100000 in
theorem joined_1111d (w : World) (HL : Hid (LaidC w)) (s t : ByteArray) (e1 : decide (100000 < (s.size : Int) + (t.size : Int)) = false) (zA : s.size + t.size ≤ 9223372036854775807) (z0 : (s.size : Int) + (t.size : Int) ≤ 100000) (z1 : Hid (s.size < 140737488355328)) (z2 : Hid (t.size < 140737488355328)) (z3 : Hid ((s ++ t).size < 140737488355328))
    (T1 : textsB (bl s) = true) (T2 : textsB (bl t) = true) (T3 : textsB (bl (s ++ t)) = true) (B1 : blankB (bl s) = true) (B2 : blankB (bl t) = false) (B3 : blankB (bl (s ++ t)) = false) (N1 : nameB (bl s) = true) (N2 : nameB (bl t) = false) (N3 : nameB (bl (s ++ t)) = true) (E : ¬ s.toList = []) : Calls Tryd.prog 7 #[.string s, .string t] w fun e w' => e = .returned (.bool true) ∧ Fr [] w w' := by
  have g := Fr.refl [] w
  go_enter Tryd.func7, Tryd.ntmps7
  go_wp2_with (first
    | (go_at_call 14; refine (awake_any _ (HL.out.kept g)).mono ?_; rintro e w5 ⟨rfl, f5⟩; replace g := g.trans f5; clear f5)
    | (go_at_call 15; refine (name_any _ (HL.out.kept g) _).mono ?_; rintro e w5 ⟨rfl, f5⟩; replace g := g.trans f5; clear f5)
    | (go_at_call 17; refine (texts_any _ (HL.out.kept g) _ (by first | exact z1.out | exact z2.out | exact z3.out)).mono ?_; rintro e w5 ⟨rfl, f5⟩; replace g := g.trans f5; clear f5)
    | (go_at_call 19; refine (blank_any _ _ (by first | exact z1.out | exact z2.out | exact z3.out)).mono ?_; rintro e w5 ⟨rfl, f5⟩; replace g := g.trans f5; clear f5))
  go_ret
  exact ⟨rfl, g⟩
set_option maxHeartbeats 4000000 in
set_option maxRecDepth 100000 in
theorem joined_1111e (w : World) (HL : Hid (LaidC w)) (s t : ByteArray) (e1 : decide (100000 < (s.size : Int) + (t.size : Int)) = false) (zA : s.size + t.size ≤ 9223372036854775807) (z0 : (s.size : Int) + (t.size : Int) ≤ 100000) (z1 : Hid (s.size < 140737488355328)) (z2 : Hid (t.size < 140737488355328)) (z3 : Hid ((s ++ t).size < 140737488355328))
    (T1 : textsB (bl s) = true) (T2 : textsB (bl t) = true) (T3 : textsB (bl (s ++ t)) = true) (B1 : blankB (bl s) = true) (B2 : blankB (bl t) = false) (B3 : blankB (bl (s ++ t)) = false) (N1 : nameB (bl s) = true) (N2 : nameB (bl t) = true) (N3 : nameB (bl (s ++ t)) = false) (d1 : decide ((s.size : Int) + (t.size : Int) ≤ 100) = false) : Calls Tryd.prog 7 #[.string s, .string t] w fun e w' => e = .returned (.bool true) ∧ Fr [] w w' := by
  have g := Fr.refl [] w
  go_enter Tryd.func7, Tryd.ntmps7
  go_wp2_with (first
    | (go_at_call 14; refine (awake_any _ (HL.out.kept g)).mono ?_; rintro e w5 ⟨rfl, f5⟩; replace g := g.trans f5; clear f5)
    | (go_at_call 15; refine (name_any _ (HL.out.kept g) _).mono ?_; rintro e w5 ⟨rfl, f5⟩; replace g := g.trans f5; clear f5)
    | (go_at_call 17; refine (texts_any _ (HL.out.kept g) _ (by first | exact z1.out | exact z2.out | exact z3.out)).mono ?_; rintro e w5 ⟨rfl, f5⟩; replace g := g.trans f5; clear f5)
    | (go_at_call 19; refine (blank_any _ _ (by first | exact z1.out | exact z2.out | exact z3.out)).mono ?_; rintro e w5 ⟨rfl, f5⟩; replace g := g.trans f5; clear f5))
  go_ret
  exact ⟨rfl, g⟩
set_option maxHeartbeats 4000000 in
set_option maxRecDepth 100000 in
theorem joined_1111f (w : World) (HL : Hid (LaidC w)) (s t : ByteArray) (e1 : decide (100000 < (s.size : Int) + (t.size : Int)) = false) (zA : s.size + t.size ≤ 9223372036854775807) (z0 : (s.size : Int) + (t.size : Int) ≤ 100000) (z1 : Hid (s.size < 140737488355328)) (z2 : Hid (t.size < 140737488355328)) (z3 : Hid ((s ++ t).size < 140737488355328))
    (T1 : textsB (bl s) = true) (T2 : textsB (bl t) = true) (T3 : textsB (bl (s ++ t)) = true) (B1 : blankB (bl s) = true) (B2 : blankB (bl t) = false) (B3 : blankB (bl (s ++ t)) = false) (N1 : nameB (bl s) = true) (N2 : nameB (bl t) = true) (N3 : nameB (bl (s ++ t)) = true) (d1 : decide ((s.size : Int) + (t.size : Int) ≤ 100) = true) (E : ¬ s.toList = []) : Calls Tryd.prog 7 #[.string s, .string t] w fun e w' => e = .returned (.bool true) ∧ Fr [] w w' := by
  have g := Fr.refl [] w
  go_enter Tryd.func7, Tryd.ntmps7
  go_wp2_with (first
    | (go_at_call 14; refine (awake_any _ (HL.out.kept g)).mono ?_; rintro e w5 ⟨rfl, f5⟩; replace g := g.trans f5; clear f5)
    | (go_at_call 15; refine (name_any _ (HL.out.kept g) _).mono ?_; rintro e w5 ⟨rfl, f5⟩; replace g := g.trans f5; clear f5)
    | (go_at_call 17; refine (texts_any _ (HL.out.kept g) _ (by first | exact z1.out | exact z2.out | exact z3.out)).mono ?_; rintro e w5 ⟨rfl, f5⟩; replace g := g.trans f5; clear f5)
    | (go_at_call 19; refine (blank_any _ _ (by first | exact z1.out | exact z2.out | exact z3.out)).mono ?_; rintro e w5 ⟨rfl, f5⟩; replace g := g.trans f5; clear f5))
  go_ret
  exact ⟨rfl, g⟩
set_option maxHeartbeats 4000000 in
set_option maxRecDepth 100000 in
theorem joined_1112a (w : World) (HL : Hid (LaidC w)) (s t : ByteArray) (e1 : decide (100000 < (s.size : Int) + (t.size : Int)) = false) (zA : s.size + t.size ≤ 9223372036854775807) (z0 : (s.size : Int) + (t.size : Int) ≤ 100000) (z1 : Hid (s.size < 140737488355328)) (z2 : Hid (t.size < 140737488355328)) (z3 : Hid ((s ++ t).size < 140737488355328))
    (T1 : textsB (bl s) = true) (T2 : textsB (bl t) = true) (T3 : textsB (bl (s ++ t)) = true) (B1 : blankB (bl s) = true) (B2 : blankB (bl t) = true) (B3 : blankB (bl (s ++ t)) = true) (N1 : nameB (bl s) = false) (N3 : nameB (bl (s ++ t)) = false) : Calls Tryd.prog 7 #[.string s, .string t] w fun e w' => e = .returned (.bool true) ∧ Fr [] w w' := by
  have g := Fr.refl [] w
  go_enter Tryd.func7, Tryd.ntmps7
  go_wp2_with (first
    | (go_at_call 14; refine (awake_any _ (HL.out.kept g)).mono ?_; rintro e w5 ⟨rfl, f5⟩; replace g := g.trans f5; clear f5)
    | (go_at_call 15; refine (name_any _ (HL.out.kept g) _).mono ?_; rintro e w5 ⟨rfl, f5⟩; replace g := g.trans f5; clear f5)
    | (go_at_call 17; refine (texts_any _ (HL.out.kept g) _ (by first | exact z1.out | exact z2.out | exact z3.out)).mono ?_; rintro e w5 ⟨rfl, f5⟩; replace g := g.trans f5; clear f5)
    | (go_at_call 19; refine (blank_any _ _ (by first | exact z1.out | exact z2.out | exact z3.out)).mono ?_; rintro e w5 ⟨rfl, f5⟩; replace g := g.trans f5; clear f5))
  go_ret
  exact ⟨rfl, g⟩
set_option maxHeartbeats 4000000 in
set_option maxRecDepth 100000 in
theorem joined_1112b (w : World) (HL : Hid (LaidC w)) (s t : ByteArray) (e1 : decide (100000 < (s.size : Int) + (t.size : Int)) = false) (zA : s.size + t.size ≤ 9223372036854775807) (z0 : (s.size : Int) + (t.size : Int) ≤ 100000) (z1 : Hid (s.size < 140737488355328)) (z2 : Hid (t.size < 140737488355328)) (z3 : Hid ((s ++ t).size < 140737488355328))
    (T1 : textsB (bl s) = true) (T2 : textsB (bl t) = true) (T3 : textsB (bl (s ++ t)) = true) (B1 : blankB (bl s) = true) (B2 : blankB (bl t) = true) (B3 : blankB (bl (s ++ t)) = true) (N1 : nameB (bl s) = false) (N3 : nameB (bl (s ++ t)) = true) (E : s.toList = []) : Calls Tryd.prog 7 #[.string s, .string t] w fun e w' => e = .returned (.bool true) ∧ Fr [] w w' := by
  have g := Fr.refl [] w
  go_enter Tryd.func7, Tryd.ntmps7
  go_wp2_with (first
    | (go_at_call 14; refine (awake_any _ (HL.out.kept g)).mono ?_; rintro e w5 ⟨rfl, f5⟩; replace g := g.trans f5; clear f5)
    | (go_at_call 15; refine (name_any _ (HL.out.kept g) _).mono ?_; rintro e w5 ⟨rfl, f5⟩; replace g := g.trans f5; clear f5)
    | (go_at_call 17; refine (texts_any _ (HL.out.kept g) _ (by first | exact z1.out | exact z2.out | exact z3.out)).mono ?_; rintro e w5 ⟨rfl, f5⟩; replace g := g.trans f5; clear f5)
    | (go_at_call 19; refine (blank_any _ _ (by first | exact z1.out | exact z2.out | exact z3.out)).mono ?_; rintro e w5 ⟨rfl, f5⟩; replace g := g.trans f5; clear f5))
  go_ret
  exact ⟨rfl, g⟩
set_option maxHeartbeats 4000000 in
set_option maxRecDepth 100000 in
theorem joined_1112c (w : World) (HL : Hid (LaidC w)) (s t : ByteArray) (e1 : decide (100000 < (s.size : Int) + (t.size : Int)) = false) (zA : s.size + t.size ≤ 9223372036854775807) (z0 : (s.size : Int) + (t.size : Int) ≤ 100000) (z1 : Hid (s.size < 140737488355328)) (z2 : Hid (t.size < 140737488355328)) (z3 : Hid ((s ++ t).size < 140737488355328))
    (T1 : textsB (bl s) = true) (T2 : textsB (bl t) = true) (T3 : textsB (bl (s ++ t)) = true) (B1 : blankB (bl s) = true) (B2 : blankB (bl t) = true) (B3 : blankB (bl (s ++ t)) = true) (N1 : nameB (bl s) = true) (N2 : nameB (bl t) = false) (N3 : nameB (bl (s ++ t)) = false) : Calls Tryd.prog 7 #[.string s, .string t] w fun e w' => e = .returned (.bool true) ∧ Fr [] w w' := by
  have g := Fr.refl [] w
  go_enter Tryd.func7, Tryd.ntmps7
  go_wp2_with (first
    | (go_at_call 14; refine (awake_any _ (HL.out.kept g)).mono ?_; rintro e w5 ⟨rfl, f5⟩; replace g := g.trans f5; clear f5)
    | (go_at_call 15; refine (name_any _ (HL.out.kept g) _).mono ?_; rintro e w5 ⟨rfl, f5⟩; replace g := g.trans f5; clear f5)
    | (go_at_call 17; refine (texts_any _ (HL.out.kept g) _ (by first | exact z1.out | exact z2.out | exact z3.out)).mono ?_; rintro e w5 ⟨rfl, f5⟩; replace g := g.trans f5; clear f5)
    | (go_at_call 19; refine (blank_any _ _ (by first | exact z1.out | exact z2.out | exact z3.out)).mono ?_; rintro e w5 ⟨rfl, f5⟩; replace g := g.trans f5; clear f5))
  go_ret
  exact ⟨rfl, g⟩
set_option maxHeartbeats 4000000 in
set_option maxRecDepth 100000 in
theorem joined_1112d (w : World) (HL : Hid (LaidC w)) (s t : ByteArray) (e1 : decide (100000 < (s.size : Int) + (t.size : Int)) = false) (zA : s.size + t.size ≤ 9223372036854775807) (z0 : (s.size : Int) + (t.size : Int) ≤ 100000) (z1 : Hid (s.size < 140737488355328)) (z2 : Hid (t.size < 140737488355328)) (z3 : Hid ((s ++ t).size < 140737488355328))
    (T1 : textsB (bl s) = true) (T2 : textsB (bl t) = true) (T3 : textsB (bl (s ++ t)) = true) (B1 : blankB (bl s) = true) (B2 : blankB (bl t) = true) (B3 : blankB (bl (s ++ t)) = true) (N1 : nameB (bl s) = true) (N2 : nameB (bl t) = false) (N3 : nameB (bl (s ++ t)) = true) (E : ¬ s.toList = []) : Calls Tryd.prog 7 #[.string s, .string t] w fun e w' => e = .returned (.bool true) ∧ Fr [] w w' := by
  have g := Fr.refl [] w
  go_enter Tryd.func7, Tryd.ntmps7
  go_wp2_with (first
    | (go_at_call 14; refine (awake_any _ (HL.out.kept g)).mono ?_; rintro e w5 ⟨rfl, f5⟩; replace g := g.trans f5; clear f5)
    | (go_at_call 15; refine (name_any _ (HL.out.kept g) _).mono ?_; rintro e w5 ⟨rfl, f5⟩; replace g := g.trans f5; clear f5)
    | (go_at_call 17; refine (texts_any _ (HL.out.kept g) _ (by first | exact z1.out | exact z2.out | exact z3.out)).mono ?_; rintro e w5 ⟨rfl, f5⟩; replace g := g.trans f5; clear f5)
    | (go_at_call 19; refine (blank_any _ _ (by first | exact z1.out | exact z2.out | exact z3.out)).mono ?_; rintro e w5 ⟨rfl, f5⟩; replace g := g.trans f5; clear f5))
  go_ret
  exact ⟨rfl, g⟩
set_option maxHeartbeats 4000000 in
set_option maxRecDepth 100000 in
theorem joined_1112e (w : World) (HL : Hid (LaidC w)) (s t : ByteArray) (e1 : decide (100000 < (s.size : Int) + (t.size : Int)) = false) (zA : s.size + t.size ≤ 9223372036854775807) (z0 : (s.size : Int) + (t.size : Int) ≤ 100000) (z1 : Hid (s.size < 140737488355328)) (z2 : Hid (t.size < 140737488355328)) (z3 : Hid ((s ++ t).size < 140737488355328))
    (T1 : textsB (bl s) = true) (T2 : textsB (bl t) = true) (T3 : textsB (bl (s ++ t)) = true) (B1 : blankB (bl s) = true) (B2 : blankB (bl t) = true) (B3 : blankB (bl (s ++ t)) = true) (N1 : nameB (bl s) = true) (N2 : nameB (bl t) = true) (N3 : nameB (bl (s ++ t)) = false) (d1 : decide ((s.size : Int) + (t.size : Int) ≤ 100) = false) : Calls Tryd.prog 7 #[.string s, .string t] w fun e w' => e = .returned (.bool true) ∧ Fr [] w w' := by
  have g := Fr.refl [] w
  go_enter Tryd.func7, Tryd.ntmps7
  go_wp2_with (first
    | (go_at_call 14; refine (awake_any _ (HL.out.kept g)).mono ?_; rintro e w5 ⟨rfl, f5⟩; replace g := g.trans f5; clear f5)
    | (go_at_call 15; refine (name_any _ (HL.out.kept g) _).mono ?_; rintro e w5 ⟨rfl, f5⟩; replace g := g.trans f5; clear f5)
    | (go_at_call 17; refine (texts_any _ (HL.out.kept g) _ (by first | exact z1.out | exact z2.out | exact z3.out)).mono ?_; rintro e w5 ⟨rfl, f5⟩; replace g := g.trans f5; clear f5)
    | (go_at_call 19; refine (blank_any _ _ (by first | exact z1.out | exact z2.out | exact z3.out)).mono ?_; rintro e w5 ⟨rfl, f5⟩; replace g := g.trans f5; clear f5))
  go_ret
  exact ⟨rfl, g⟩
set_option maxHeartbeats 4000000 in
set_option maxRecDepth 100000 in
theorem joined_1112f (w : World) (HL : Hid (LaidC w)) (s t : ByteArray) (e1 : decide (100000 < (s.size : Int) + (t.size : Int)) = false) (zA : s.size + t.size ≤ 9223372036854775807) (z0 : (s.size : Int) + (t.size : Int) ≤ 100000) (z1 : Hid (s.size < 140737488355328)) (z2 : Hid (t.size < 140737488355328)) (z3 : Hid ((s ++ t).size < 140737488355328))
    (T1 : textsB (bl s) = true) (T2 : textsB (bl t) = true) (T3 : textsB (bl (s ++ t)) = true) (B1 : blankB (bl s) = true) (B2 : blankB (bl t) = true) (B3 : blankB (bl (s ++ t)) = true) (N1 : nameB (bl s) = true) (N2 : nameB (bl t) = true) (N3 : nameB (bl (s ++ t)) = true) (d1 : decide ((s.size : Int) + (t.size : Int) ≤ 100) = true) (E : ¬ s.toList = []) : Calls Tryd.prog 7 #[.string s, .string t] w fun e w' => e = .returned (.bool true) ∧ Fr [] w w' := by
  have g := Fr.refl [] w
  go_enter Tryd.func7, Tryd.ntmps7
  go_wp2_with (first
    | (go_at_call 14; refine (awake_any _ (HL.out.kept g)).mono ?_; rintro e w5 ⟨rfl, f5⟩; replace g := g.trans f5; clear f5)
    | (go_at_call 15; refine (name_any _ (HL.out.kept g) _).mono ?_; rintro e w5 ⟨rfl, f5⟩; replace g := g.trans f5; clear f5)
    | (go_at_call 17; refine (texts_any _ (HL.out.kept g) _ (by first | exact z1.out | exact z2.out | exact z3.out)).mono ?_; rintro e w5 ⟨rfl, f5⟩; replace g := g.trans f5; clear f5)
    | (go_at_call 19; refine (blank_any _ _ (by first | exact z1.out | exact z2.out | exact z3.out)).mono ?_; rintro e w5 ⟨rfl, f5⟩; replace g := g.trans f5; clear f5))
  go_ret
  exact ⟨rfl, g⟩
set_option maxHeartbeats 4000000 in
set_option maxRecDepth 100000 in
theorem joined_1000a (w : World) (HL : Hid (LaidC w)) (s t : ByteArray) (e1 : decide (100000 < (s.size : Int) + (t.size : Int)) = false) (zA : s.size + t.size ≤ 9223372036854775807) (z0 : (s.size : Int) + (t.size : Int) ≤ 100000) (z1 : Hid (s.size < 140737488355328)) (z2 : Hid (t.size < 140737488355328)) (z3 : Hid ((s ++ t).size < 140737488355328))
    (T1 : textsB (bl s) = true) (T2 : textsB (bl t) = false) (T3 : textsB (bl (s ++ t)) = false) (B1 : blankB (bl s) = false) (B3 : blankB (bl (s ++ t)) = false) (N1 : nameB (bl s) = false) (N3 : nameB (bl (s ++ t)) = false) : Calls Tryd.prog 7 #[.string s, .string t] w fun e w' => e = .returned (.bool true) ∧ Fr [] w w' := by
  have g := Fr.refl [] w
  go_enter Tryd.func7, Tryd.ntmps7
  go_wp2_with (first
    | (go_at_call 14; refine (awake_any _ (HL.out.kept g)).mono ?_; rintro e w5 ⟨rfl, f5⟩; replace g := g.trans f5; clear f5)
    | (go_at_call 15; refine (name_any _ (HL.out.kept g) _).mono ?_; rintro e w5 ⟨rfl, f5⟩; replace g := g.trans f5; clear f5)
    | (go_at_call 17; refine (texts_any _ (HL.out.kept g) _ (by first | exact z1.out | exact z2.out | exact z3.out)).mono ?_; rintro e w5 ⟨rfl, f5⟩; replace g := g.trans f5; clear f5)
    | (go_at_call 19; refine (blank_any _ _ (by first | exact z1.out | exact z2.out | exact z3.out)).mono ?_; rintro e w5 ⟨rfl, f5⟩; replace g := g.trans f5; clear f5))
  go_ret
  exact ⟨rfl, g⟩
set_option maxHeartbeats 4000000 in
set_option maxRecDepth 100000 in
theorem joined_1000b (w : World) (HL : Hid (LaidC w)) (s t : ByteArray) (e1 : decide (100000 < (s.size : Int) + (t.size : Int)) = false) (zA : s.size + t.size ≤ 9223372036854775807) (z0 : (s.size : Int) + (t.size : Int) ≤ 100000) (z1 : Hid (s.size < 140737488355328)) (z2 : Hid (t.size < 140737488355328)) (z3 : Hid ((s ++ t).size < 140737488355328))
    (T1 : textsB (bl s) = true) (T2 : textsB (bl t) = false) (T3 : textsB (bl (s ++ t)) = false) (B1 : blankB (bl s) = false) (B3 : blankB (bl (s ++ t)) = false) (N1 : nameB (bl s) = false) (N3 : nameB (bl (s ++ t)) = true) (E : s.toList = []) : Calls Tryd.prog 7 #[.string s, .string t] w fun e w' => e = .returned (.bool true) ∧ Fr [] w w' := by
  have g := Fr.refl [] w
  go_enter Tryd.func7, Tryd.ntmps7
  go_wp2_with (first
    | (go_at_call 14; refine (awake_any _ (HL.out.kept g)).mono ?_; rintro e w5 ⟨rfl, f5⟩; replace g := g.trans f5; clear f5)
    | (go_at_call 15; refine (name_any _ (HL.out.kept g) _).mono ?_; rintro e w5 ⟨rfl, f5⟩; replace g := g.trans f5; clear f5)
    | (go_at_call 17; refine (texts_any _ (HL.out.kept g) _ (by first | exact z1.out | exact z2.out | exact z3.out)).mono ?_; rintro e w5 ⟨rfl, f5⟩; replace g := g.trans f5; clear f5)
    | (go_at_call 19; refine (blank_any _ _ (by first | exact z1.out | exact z2.out | exact z3.out)).mono ?_; rintro e w5 ⟨rfl, f5⟩; replace g := g.trans f5; clear f5))
  go_ret
  exact ⟨rfl, g⟩
set_option maxHeartbeats 4000000 in
set_option maxRecDepth 100000 in
theorem joined_1000c (w : World) (HL : Hid (LaidC w)) (s t : ByteArray) (e1 : decide (100000 < (s.size : Int) + (t.size : Int)) = false) (zA : s.size + t.size ≤ 9223372036854775807) (z0 : (s.size : Int) + (t.size : Int) ≤ 100000) (z1 : Hid (s.size < 140737488355328)) (z2 : Hid (t.size < 140737488355328)) (z3 : Hid ((s ++ t).size < 140737488355328))
    (T1 : textsB (bl s) = true) (T2 : textsB (bl t) = false) (T3 : textsB (bl (s ++ t)) = false) (B1 : blankB (bl s) = false) (B3 : blankB (bl (s ++ t)) = false) (N1 : nameB (bl s) = true) (N2 : nameB (bl t) = false) (N3 : nameB (bl (s ++ t)) = false) : Calls Tryd.prog 7 #[.string s, .string t] w fun e w' => e = .returned (.bool true) ∧ Fr [] w w' := by
  have g := Fr.refl [] w
  go_enter Tryd.func7, Tryd.ntmps7
  go_wp2_with (first
    | (go_at_call 14; refine (awake_any _ (HL.out.kept g)).mono ?_; rintro e w5 ⟨rfl, f5⟩; replace g := g.trans f5; clear f5)
    | (go_at_call 15; refine (name_any _ (HL.out.kept g) _).mono ?_; rintro e w5 ⟨rfl, f5⟩; replace g := g.trans f5; clear f5)
    | (go_at_call 17; refine (texts_any _ (HL.out.kept g) _ (by first | exact z1.out | exact z2.out | exact z3.out)).mono ?_; rintro e w5 ⟨rfl, f5⟩; replace g := g.trans f5; clear f5)
    | (go_at_call 19; refine (blank_any _ _ (by first | exact z1.out | exact z2.out | exact z3.out)).mono ?_; rintro e w5 ⟨rfl, f5⟩; replace g := g.trans f5; clear f5))
  go_ret
  exact ⟨rfl, g⟩
end Go.Proofs.YtmhfbkafcpceiaaDoor
