/-
  CharsJoined, whatever the texts.
-/
import Derived.Test.YtmhfbkafcpceiaaDoorCJoA
import Derived.Test.YtmhfbkafcpceiaaDoorCJoB
namespace Go.Proofs.YtmhfbkafcpceiaaDoor
open Go.RowKit Go.Maps
set_option linter.unusedVariables false

theorem bl_app2 (a b : ByteArray) : bl (a ++ b) = bl a ++ bl b := by
  unfold bl
  rw [ByteArray.data_append, Array.toList_append]
theorem name_texts {l : List UInt8} (h : nameB l = true) : textsB l = true := by
  unfold nameB at h
  unfold textsB
  simp only [Bool.and_eq_true] at h
  match hr : runes l, h.2 with
  | some (r :: rs), h2 =>
    have h2 : (nst r && rs.all (fun q => nch q)) = true := h2
    simp only [Bool.and_eq_true] at h2
    show (txt r && rs.all (fun q => txt q)) = true
    rw [txt_of_nst h2.1, Bool.true_and]
    refine List.all_eq_true.2 (fun q hq => txt_of_nch (List.all_eq_true.1 h2.2 q hq))
theorem toList_nil {s : ByteArray} (h : bl s = []) : s.toList = [] := by rw [ByteArray.toList_eq]; exact h
theorem toList_ne {s : ByteArray} (h : bl s ≠ []) : ¬ s.toList = [] := by rw [ByteArray.toList_eq]; exact h
theorem name_ne {l : List UInt8} (h : nameB l = true) : l ≠ [] := by
  intro e
  subst e
  exact absurd h (by decide)
theorem name_long {l : List UInt8} (h : 100 < l.length) : nameB l = false := by
  unfold nameB
  rw [decide_eq_false (by omega)]
  rfl

theorem joined_short (w : World) (L : LaidC w) (s t : ByteArray) (hz : s.size + t.size ≤ 100000) : Calls Tryd.prog 7 #[.string s, .string t] w fun e w' => e = .returned (.bool true) ∧ Fr [] w w' := by
  have ea := bl_app2 s t
  have hsz : (s ++ t).size = s.size + t.size := by rw [← bl_length, ea, List.length_append, bl_length, bl_length]
  have e1 : decide (100000 < (s.size : Int) + (t.size : Int)) = false := decide_eq_false (by omega)
  have zA : s.size + t.size ≤ 9223372036854775807 := by omega
  have z0 : (s.size : Int) + (t.size : Int) ≤ 100000 := by omega
  have z1 : s.size < 140737488355328 := by omega
  have z2 : t.size < 140737488355328 := by omega
  have z3 : (s ++ t).size < 140737488355328 := by omega
  have bb : blankB (bl (s ++ t)) = (blankB (bl s) && blankB (bl t)) := by rw [ea]; exact blank_app _ _
  cases T1 : textsB (bl s) with
  | true =>
    have t3 : textsB (bl (s ++ t)) = textsB (bl t) := by rw [ea]; exact texts_left T1
    have nl : nameB (bl (s ++ t)) = true → nameB (bl s) = false → s.toList = [] := fun h1 h2 => by
      by_cases hne : bl s = []
      · exact toList_nil hne
      · rw [ea] at h1
        rw [name_left h1 hne T1] at h2
        cases h2
    cases T2 : textsB (bl t) with
    | true =>
      have T3 : textsB (bl (s ++ t)) = true := t3.trans T2
      cases B1 : blankB (bl s) with
      | false =>
        have B3 : blankB (bl (s ++ t)) = false := by rw [bb, B1]; rfl
        cases N1 : nameB (bl s) with
        | false =>
          cases N3 : nameB (bl (s ++ t)) with
          | false => exact joined_1110a w L s t e1 zA z0 z1 z2 z3 T1 T2 T3 B1 B3 N1 N3
          | true => exact joined_1110b w L s t e1 zA z0 z1 z2 z3 T1 T2 T3 B1 B3 N1 N3 (nl N3 N1)
        | true =>
          cases N2 : nameB (bl t) with
          | false =>
            cases N3 : nameB (bl (s ++ t)) with
            | false => exact joined_1110c w L s t e1 zA z0 z1 z2 z3 T1 T2 T3 B1 B3 N1 N2 N3
            | true => exact joined_1110d w L s t e1 zA z0 z1 z2 z3 T1 T2 T3 B1 B3 N1 N2 N3 (toList_ne (name_ne N1))
          | true =>
            by_cases hl : s.size + t.size ≤ 100
            · have N3 : nameB (bl (s ++ t)) = true := by rw [ea]; exact name_app N1 N2 (by rw [bl_length, bl_length]; exact hl)
              exact joined_1110f w L s t e1 zA z0 z1 z2 z3 T1 T2 T3 B1 B3 N1 N2 N3 (decide_eq_true (by omega)) (toList_ne (name_ne N1))
            · have N3 : nameB (bl (s ++ t)) = false := name_long (by rw [bl_length, hsz]; omega)
              exact joined_1110e w L s t e1 zA z0 z1 z2 z3 T1 T2 T3 B1 B3 N1 N2 N3 (decide_eq_false (by omega))
      | true =>
        cases B2 : blankB (bl t) with
        | false =>
          have B3 : blankB (bl (s ++ t)) = false := by rw [bb, B1, B2]; rfl
          cases N1 : nameB (bl s) with
          | false =>
            cases N3 : nameB (bl (s ++ t)) with
            | false => exact joined_1111a w L s t e1 zA z0 z1 z2 z3 T1 T2 T3 B1 B2 B3 N1 N3
            | true => exact joined_1111b w L s t e1 zA z0 z1 z2 z3 T1 T2 T3 B1 B2 B3 N1 N3 (nl N3 N1)
          | true =>
            cases N2 : nameB (bl t) with
            | false =>
              cases N3 : nameB (bl (s ++ t)) with
              | false => exact joined_1111c w L s t e1 zA z0 z1 z2 z3 T1 T2 T3 B1 B2 B3 N1 N2 N3
              | true => exact joined_1111d w L s t e1 zA z0 z1 z2 z3 T1 T2 T3 B1 B2 B3 N1 N2 N3 (toList_ne (name_ne N1))
            | true =>
              by_cases hl : s.size + t.size ≤ 100
              · have N3 : nameB (bl (s ++ t)) = true := by rw [ea]; exact name_app N1 N2 (by rw [bl_length, bl_length]; exact hl)
                exact joined_1111f w L s t e1 zA z0 z1 z2 z3 T1 T2 T3 B1 B2 B3 N1 N2 N3 (decide_eq_true (by omega)) (toList_ne (name_ne N1))
              · have N3 : nameB (bl (s ++ t)) = false := name_long (by rw [bl_length, hsz]; omega)
                exact joined_1111e w L s t e1 zA z0 z1 z2 z3 T1 T2 T3 B1 B2 B3 N1 N2 N3 (decide_eq_false (by omega))
        | true =>
          have B3 : blankB (bl (s ++ t)) = true := by rw [bb, B1, B2]; rfl
          cases N1 : nameB (bl s) with
          | false =>
            cases N3 : nameB (bl (s ++ t)) with
            | false => exact joined_1112a w L s t e1 zA z0 z1 z2 z3 T1 T2 T3 B1 B2 B3 N1 N3
            | true => exact joined_1112b w L s t e1 zA z0 z1 z2 z3 T1 T2 T3 B1 B2 B3 N1 N3 (nl N3 N1)
          | true =>
            cases N2 : nameB (bl t) with
            | false =>
              cases N3 : nameB (bl (s ++ t)) with
              | false => exact joined_1112c w L s t e1 zA z0 z1 z2 z3 T1 T2 T3 B1 B2 B3 N1 N2 N3
              | true => exact joined_1112d w L s t e1 zA z0 z1 z2 z3 T1 T2 T3 B1 B2 B3 N1 N2 N3 (toList_ne (name_ne N1))
            | true =>
              by_cases hl : s.size + t.size ≤ 100
              · have N3 : nameB (bl (s ++ t)) = true := by rw [ea]; exact name_app N1 N2 (by rw [bl_length, bl_length]; exact hl)
                exact joined_1112f w L s t e1 zA z0 z1 z2 z3 T1 T2 T3 B1 B2 B3 N1 N2 N3 (decide_eq_true (by omega)) (toList_ne (name_ne N1))
              · have N3 : nameB (bl (s ++ t)) = false := name_long (by rw [bl_length, hsz]; omega)
                exact joined_1112e w L s t e1 zA z0 z1 z2 z3 T1 T2 T3 B1 B2 B3 N1 N2 N3 (decide_eq_false (by omega))
    | false =>
      have T3 : textsB (bl (s ++ t)) = false := t3.trans T2
      cases B1 : blankB (bl s) with
      | false =>
        have B3 : blankB (bl (s ++ t)) = false := by rw [bb, B1]; rfl
        cases N1 : nameB (bl s) with
        | false =>
          cases N3 : nameB (bl (s ++ t)) with
          | false => exact joined_1000a w L s t e1 zA z0 z1 z2 z3 T1 T2 T3 B1 B3 N1 N3
          | true => exact joined_1000b w L s t e1 zA z0 z1 z2 z3 T1 T2 T3 B1 B3 N1 N3 (nl N3 N1)
        | true =>
          cases N2 : nameB (bl t) with
          | false =>
            cases N3 : nameB (bl (s ++ t)) with
            | false => exact joined_1000c w L s t e1 zA z0 z1 z2 z3 T1 T2 T3 B1 B3 N1 N2 N3
            | true => exact joined_1000d w L s t e1 zA z0 z1 z2 z3 T1 T2 T3 B1 B3 N1 N2 N3 (toList_ne (name_ne N1))
          | true =>
            by_cases hl : s.size + t.size ≤ 100
            · have N3 : nameB (bl (s ++ t)) = true := by rw [ea]; exact name_app N1 N2 (by rw [bl_length, bl_length]; exact hl)
              exact joined_1000f w L s t e1 zA z0 z1 z2 z3 T1 T2 T3 B1 B3 N1 N2 N3 (decide_eq_true (by omega)) (toList_ne (name_ne N1))
            · have N3 : nameB (bl (s ++ t)) = false := name_long (by rw [bl_length, hsz]; omega)
              exact joined_1000e w L s t e1 zA z0 z1 z2 z3 T1 T2 T3 B1 B3 N1 N2 N3 (decide_eq_false (by omega))
      | true =>
        cases B2 : blankB (bl t) with
        | false =>
          have B3 : blankB (bl (s ++ t)) = false := by rw [bb, B1, B2]; rfl
          cases N1 : nameB (bl s) with
          | false =>
            cases N3 : nameB (bl (s ++ t)) with
            | false => exact joined_1001a w L s t e1 zA z0 z1 z2 z3 T1 T2 T3 B1 B2 B3 N1 N3
            | true => exact joined_1001b w L s t e1 zA z0 z1 z2 z3 T1 T2 T3 B1 B2 B3 N1 N3 (nl N3 N1)
          | true =>
            cases N2 : nameB (bl t) with
            | false =>
              cases N3 : nameB (bl (s ++ t)) with
              | false => exact joined_1001c w L s t e1 zA z0 z1 z2 z3 T1 T2 T3 B1 B2 B3 N1 N2 N3
              | true => exact joined_1001d w L s t e1 zA z0 z1 z2 z3 T1 T2 T3 B1 B2 B3 N1 N2 N3 (toList_ne (name_ne N1))
            | true =>
              by_cases hl : s.size + t.size ≤ 100
              · have N3 : nameB (bl (s ++ t)) = true := by rw [ea]; exact name_app N1 N2 (by rw [bl_length, bl_length]; exact hl)
                exact joined_1001f w L s t e1 zA z0 z1 z2 z3 T1 T2 T3 B1 B2 B3 N1 N2 N3 (decide_eq_true (by omega)) (toList_ne (name_ne N1))
              · have N3 : nameB (bl (s ++ t)) = false := name_long (by rw [bl_length, hsz]; omega)
                exact joined_1001e w L s t e1 zA z0 z1 z2 z3 T1 T2 T3 B1 B2 B3 N1 N2 N3 (decide_eq_false (by omega))
        | true =>
          have B3 : blankB (bl (s ++ t)) = true := by rw [bb, B1, B2]; rfl
          cases N1 : nameB (bl s) with
          | false =>
            cases N3 : nameB (bl (s ++ t)) with
            | false => exact joined_1002a w L s t e1 zA z0 z1 z2 z3 T1 T2 T3 B1 B2 B3 N1 N3
            | true => exact joined_1002b w L s t e1 zA z0 z1 z2 z3 T1 T2 T3 B1 B2 B3 N1 N3 (nl N3 N1)
          | true =>
            cases N2 : nameB (bl t) with
            | false =>
              cases N3 : nameB (bl (s ++ t)) with
              | false => exact joined_1002c w L s t e1 zA z0 z1 z2 z3 T1 T2 T3 B1 B2 B3 N1 N2 N3
              | true => exact joined_1002d w L s t e1 zA z0 z1 z2 z3 T1 T2 T3 B1 B2 B3 N1 N2 N3 (toList_ne (name_ne N1))
            | true =>
              by_cases hl : s.size + t.size ≤ 100
              · have N3 : nameB (bl (s ++ t)) = true := by rw [ea]; exact name_app N1 N2 (by rw [bl_length, bl_length]; exact hl)
                exact joined_1002f w L s t e1 zA z0 z1 z2 z3 T1 T2 T3 B1 B2 B3 N1 N2 N3 (decide_eq_true (by omega)) (toList_ne (name_ne N1))
              · have N3 : nameB (bl (s ++ t)) = false := name_long (by rw [bl_length, hsz]; omega)
                exact joined_1002e w L s t e1 zA z0 z1 z2 z3 T1 T2 T3 B1 B2 B3 N1 N2 N3 (decide_eq_false (by omega))
  | false =>
    cases T2 : textsB (bl t) with
    | true =>
      have T3 : textsB (bl (s ++ t)) = false := by rw [ea, texts_right T2]; exact T1
      cases B1 : blankB (bl s) with
      | false =>
        have B3 : blankB (bl (s ++ t)) = false := by rw [bb, B1]; rfl
        cases N1 : nameB (bl s) with
        | false =>
          cases N3 : nameB (bl (s ++ t)) with
          | false => exact joined_0100a w L s t e1 zA z0 z1 z2 z3 T1 T2 T3 B1 B3 N1 N3
          | true => exact joined_0100g w L s t e1 zA z0 z1 z2 z3 T1 T2 T3 B1 B3 N1 N3 (toList_ne (fun e => by rw [e] at T1; exact absurd T1 (by decide)))
        | true => rw [name_texts N1] at T1; cases T1
      | true => rw [blank_texts _ B1] at T1; cases T1
    | false =>
      cases T3 : textsB (bl (s ++ t)) with
      | false =>
        cases B1 : blankB (bl s) with
        | false =>
          have B3 : blankB (bl (s ++ t)) = false := by rw [bb, B1]; rfl
          cases N1 : nameB (bl s) with
          | false =>
            cases N3 : nameB (bl (s ++ t)) with
            | false => exact joined_0000a w L s t e1 zA z0 z1 z2 z3 T1 T2 T3 B1 B3 N1 N3
            | true => exact joined_0000g w L s t e1 zA z0 z1 z2 z3 T1 T2 T3 B1 B3 N1 N3 (toList_ne (fun e => by rw [e] at T1; exact absurd T1 (by decide)))
          | true => rw [name_texts N1] at T1; cases T1
        | true => rw [blank_texts _ B1] at T1; cases T1
      | true =>
        cases B1 : blankB (bl s) with
        | false =>
          have B3 : blankB (bl (s ++ t)) = false := by rw [bb, B1]; rfl
          cases N1 : nameB (bl s) with
          | false =>
            cases N3 : nameB (bl (s ++ t)) with
            | false => exact joined_0010a w L s t e1 zA z0 z1 z2 z3 T1 T2 T3 B1 B3 N1 N3
            | true => exact joined_0010g w L s t e1 zA z0 z1 z2 z3 T1 T2 T3 B1 B3 N1 N3 (toList_ne (fun e => by rw [e] at T1; exact absurd T1 (by decide)))
          | true => rw [name_texts N1] at T1; cases T1
        | true => rw [blank_texts _ B1] at T1; cases T1

theorem joined_long (w : World) (L : LaidC w) (s t : ByteArray) (h1 : s.size < 140737488355328) (h2 : t.size < 140737488355328) (hz : 100000 < s.size + t.size) : Calls Tryd.prog 7 #[.string s, .string t] w fun e w' => e = .returned (.bool true) ∧ Fr [] w w' := by
  have e1 : decide (100000 < (s.size : Int) + (t.size : Int)) = true := decide_eq_true (by omega)
  have hw : wrap64 ((s.size : Int) + (t.size : Int)) = (s.size : Int) + (t.size : Int) := by unfold wrap64; omega
  have c := Hid.mk (awake_any w L)
  clear L
  go_enter Tryd.func7, Tryd.ntmps7
  go_wp2_with (go_at_call 14; refine c.out.mono ?_; rintro e w5 ⟨rfl, f5⟩)
  go_ret
  exact ⟨rfl, f5⟩
theorem charsJoined_law (w : World) (L : LaidC w) (s t : ByteArray) (h1 : s.size < 140737488355328) (h2 : t.size < 140737488355328) : Calls Tryd.prog 7 #[.string s, .string t] w fun e w' => e = .returned (.bool true) ∧ Fr [] w w' := by
  by_cases h : s.size + t.size ≤ 100000
  · exact joined_short w L s t h
  · exact joined_long w L s t h1 h2 (by omega)
end Go.Proofs.YtmhfbkafcpceiaaDoor
