/-
  What a Value is.
-/
import Derived.Test.YtdfgmdddnehocabGreatDoorTLook
namespace Go.Proofs.YtdfgmdddnehocabGreatDoor
open Go.RowKit Go.Maps Go.Lib

theorem contains_two (a b : UInt8) : ∀ l : List UInt8, Lib.contains l [a, b] = has2 a b l
  | [] => rfl
  | [x] => by simp [Lib.contains, Lib.index, has2]
  | x :: y :: r => by
    have ih := contains_two a b (y :: r)
    have hb : ∀ p q : UInt8, (p == q) = (q == p) := fun p q => by
      by_cases e : p = q
      · subst e; rfl
      · rw [beq_eq_false_iff_ne.2 e, beq_eq_false_iff_ne.2 (fun h => e h.symm)]
    have hp : List.isPrefixOf [a, b] (x :: y :: r) = (x == a && y == b) := by
      simp only [List.isPrefixOf, Bool.and_true]
      rw [hb a x, hb b y]
    have hi := Lib.index_ge (y :: r) [a, b]
    unfold has2
    rw [← ih]
    unfold Lib.contains
    conv => lhs; unfold Lib.index
    rw [hp]
    cases hx : (x == a && y == b) with
    | true => rfl
    | false =>
      rw [if_neg (by decide), Bool.false_or]
      by_cases e : Lib.index (y :: r) [a, b] = -1
      · rw [e]; rfl
      · rw [if_neg (by simpa using e)]
        exact decide_eq_decide.2 (by omega)
theorem suffix_one (a : UInt8) (l : List UInt8) : Lib.hasSuffix l [a] = decide (l.getLast? = some a) := by
  unfold Lib.hasSuffix
  rw [Bool.eq_iff_iff, List.isSuffixOf_iff_suffix, decide_eq_true_eq]
  constructor
  · rintro ⟨r, rfl⟩
    simp
  · intro h
    obtain ⟨ys, e⟩ := List.getLast?_eq_some_iff.1 h
    exact ⟨ys, e.symm⟩

set_option maxHeartbeats 4000000 in
theorem valueIs_any (w : World) (L : LaidT w) (s : ByteArray) :
    Calls Tryz.prog 96 #[.string s] w fun e w' => e = .returned (.int .u8 (vlIs (bl s) : Nat)) ∧ Fr [] w w' := by
  unfold vlIs
  by_cases h0 : s.size = 0
  · rw [if_pos (bl_nil_of h0)]
    have he := isEmpty_yes h0
    clear L
    go_enter Tryz.func96, Tryz.ntmps96
    go_wp2
    go_ret
    exact ⟨rfl, Fr.refl _ _⟩
  · rw [if_neg (bl_ne (by omega)), bl_length]
    have he := isEmpty_no (s := s) (by omega)
    by_cases hlong : 65536 < s.size
    · rw [if_pos (Or.inl hlong)]
      have hl : (65536 : Int) < (s.size : Int) := by omega
      clear L
      go_enter Tryz.func96, Tryz.ntmps96
      go_wp2
      go_ret
      exact ⟨rfl, Fr.refl _ _⟩
    · have hl : ¬ (65536 : Int) < (s.size : Int) := by omega
      have cT := texts_any w L.chars s (by omega)
      cases ht : textsB (bl s) with
      | false =>
        rw [if_pos (Or.inr rfl)]
        rw [ht] at cT
        have CT := Hid.mk cT
        clear cT L ht
        go_enter Tryz.func96, Tryz.ntmps96
        go_wp2_with (go_at_call 103; refine CT.out.mono ?_; rintro e w5 ⟨rfl, f5⟩)
        go_ret
        exact ⟨rfl, f5⟩
      | true =>
        rw [if_neg (by rintro (h | h); exact hlong h; cases h)]
        rw [ht] at cT
        have CT := Hid.mk cT
        have HL := Hid.mk L
        obtain ⟨c1, hc1⟩ : ∃ c, has2 45 45 (bl s) = c := ⟨_, rfl⟩
        obtain ⟨c2, hc2⟩ : ∃ c, has2 63 62 (bl s) = c := ⟨_, rfl⟩
        obtain ⟨c3, hc3⟩ : ∃ c, decide ((bl s).getLast? = some 45) = c := ⟨_, rfl⟩
        obtain ⟨c4, hc4⟩ : ∃ c, blankB ((bl s).take 1) = c := ⟨_, rfl⟩
        have hc3' : ((bl s).getLast? = some 45) ↔ c3 = true := by rw [← hc3, decide_eq_true_eq]
        simp only [hc1, hc2, hc3', hc4]
        have H1 : Hid (Lib.contains s.data.toList (ByteArray.mk #[45, 45]).data.toList = c1) := (contains_two 45 45 (bl s)).trans hc1
        have H2 : Hid (Lib.contains s.data.toList (ByteArray.mk #[63, 62]).data.toList = c2) := (contains_two 63 62 (bl s)).trans hc2
        have H3 : Hid (Lib.hasSuffix s.data.toList (ByteArray.mk #[45]).data.toList = c3) := (suffix_one 45 (bl s)).trans hc3
        have H4 : Hid (blankB (bl (mkS ((bl s).take 1))) = c4) := by rw [bl_mkS]; exact hc4
        have hh := run_head s 1 1 rfl (by omega)
        have H5 : Hid ((mkS ((bl s).take 1)).size < 140737488355328) := by
          show _ < _
          rw [← bl_length, bl_mkS, List.length_take]
          omega
        generalize mkS ((bl s).take 1) = HD at hh H4 H5
        clear cT L ht hc1 hc2 hc3 hc3' hc4
        cases c1 <;> cases c2 <;> cases c3 <;> cases c4
        all_goals
          go_enter Tryz.func96, Tryz.ntmps96
          go_wp2_with (first
            | (go_at_call 103; refine CT.out.mono ?_; rintro e w5 ⟨rfl, f5⟩)
            | (go_at_call_of 104 (#[Value.string s, Value.string (ByteArray.mk #[45, 45])]); obtain ⟨m5, hm5⟩ := (HL.out.kept f5).most; refine (Tryz.strings_Contains s _ m5 _ (by omega) hm5).mono ?_; rw [H1.out]; rintro e w6 ⟨rfl, rfl⟩)
            | (go_at_call 104; obtain ⟨m5, hm5⟩ := (HL.out.kept f5).most; refine (Tryz.strings_Contains s _ m5 _ (by omega) hm5).mono ?_; rw [H2.out]; rintro e w6 ⟨rfl, rfl⟩)
            | (go_at_call 105; refine (Tryz.strings_HasSuffix s _ _ (by omega)).mono ?_; rw [H3.out]; rintro e w6 ⟨rfl, rfl⟩)
            | (go_at_call 106; refine (blank_any _ HD H5.out).mono ?_; rw [H4.out]; rintro e w6 ⟨rfl, f6⟩)
            | go_in)
          go_ret
          first
            | exact ⟨rfl, f5⟩
            | exact ⟨rfl, f5.trans f6⟩
end Go.Proofs.YtdfgmdddnehocabGreatDoor
