/-
  CharsRunes, CharsTexts, CharsWithin, CharsJoined.
-/
import Derived.Test.YtmhfbkafcpceiaaDoorCAwake
namespace Go.Proofs.YtmhfbkafcpceiaaDoor
open Go.RowKit Go.Maps

set_option maxHeartbeats 4000000 in
set_option maxRecDepth 100000 in
theorem charsRunes_law (w : World) (L : LaidC w) (r : Int) : Calls Tryd.prog 3 #[.int .i32 r] w fun e w' => e = .returned (.bool true) ∧ Fr [] w w' := by
  have HL : Hid (LaidC w) := L
  clear L
  have g := Fr.refl [] w
  obtain ⟨T, HT⟩ : ∃ T, Hid (txt r = T) := ⟨_, rfl⟩
  obtain ⟨S, HS⟩ : ∃ T, Hid (nst r = T) := ⟨_, rfl⟩
  obtain ⟨C, HC⟩ : ∃ T, Hid (nch r = T) := ⟨_, rfl⟩
  go_enter Tryd.func3, Tryd.ntmps3
  go_wp2_with fail
  refine (aw_char _ (HL.out.kept g) r T HT.out).mono ?_
  rintro e w0 ⟨rfl, f0⟩
  replace g := g.trans f0
  clear f0
  go_wp2_with fail
  refine (refChar_any _ r).mono ?_
  rw [HT.out]
  rintro e w1 ⟨rfl, rfl⟩
  go_wp2_with fail
  refine (aw_start _ (HL.out.kept g) r S HS.out).mono ?_
  rintro e w2 ⟨rfl, f2⟩
  replace g := g.trans f2
  clear f2
  go_wp2_with fail
  refine (refStart_any _ r).mono ?_
  rw [HS.out]
  rintro e w3 ⟨rfl, rfl⟩
  go_wp2_with fail
  refine (aw_nc _ (HL.out.kept g) r C HC.out).mono ?_
  rintro e w4 ⟨rfl, f4⟩
  replace g := g.trans f4
  clear f4
  go_wp2_with fail
  refine (refMore_any _ r).mono ?_
  rw [HC.out]
  rintro e w5 ⟨rfl, rfl⟩
  go_wp2_with fail
  refine (awake_any _ (HL.out.kept g)).mono ?_
  rintro e w6 ⟨rfl, f6⟩
  replace g := g.trans f6
  clear f6
  go_wp2_with fail
  go_ret
  exact ⟨rfl, g⟩

theorem charsTexts_long (w : World) (L : LaidC w) (s : ByteArray) (hz : 100000 < s.size) : Calls Tryd.prog 4 #[.string s] w fun e w' => e = .returned (.bool true) ∧ Fr [] w w' := by
  have hzz : (100000 : Int) < (s.size : Int) := by omega
  have c := Hid.mk (awake_any w L)
  clear L
  go_enter Tryd.func4, Tryd.ntmps4
  go_wp2_with (go_at_call 14; refine c.out.mono ?_; rintro e w5 ⟨rfl, f5⟩)
  go_ret
  exact ⟨rfl, f5⟩
set_option maxHeartbeats 4000000 in
set_option maxRecDepth 100000 in
theorem charsTexts_short (w : World) (L : LaidC w) (s : ByteArray) (hz : s.size ≤ 100000) : Calls Tryd.prog 4 #[.string s] w fun e w' => e = .returned (.bool true) ∧ Fr [] w w' := by
  have HL : Hid (LaidC w) := L
  have hzz : ¬ (100000 : Int) < (s.size : Int) := by omega
  have HZ : Hid (s.size < 140737488355328) := by show _ < _; omega
  clear L hz
  have g := Fr.refl [] w
  obtain ⟨T, HT⟩ : ∃ T, Hid (nameB (bl s) = T) := ⟨_, rfl⟩
  obtain ⟨S, HS⟩ : ∃ T, Hid (textsB (bl s) = T) := ⟨_, rfl⟩
  obtain ⟨C, HC⟩ : ∃ T, Hid (blankB (bl s) = T) := ⟨_, rfl⟩
  go_enter Tryd.func4, Tryd.ntmps4
  go_wp2_with fail
  refine (aw_name _ (HL.out.kept g) s T HT.out).mono ?_
  rintro e w0 ⟨rfl, f0⟩
  replace g := g.trans f0
  clear f0
  go_wp2_with fail
  refine (refName_any _ s).mono ?_
  rw [HT.out]
  rintro e w1 ⟨rfl, rfl⟩
  go_wp2_with fail
  refine (aw_texts _ (HL.out.kept g) s HZ.out S HS.out).mono ?_
  rintro e w2 ⟨rfl, f2⟩
  replace g := g.trans f2
  clear f2
  go_wp2_with fail
  refine (refTexts_any _ s HZ.out).mono ?_
  rw [HS.out]
  rintro e w3 ⟨rfl, rfl⟩
  go_wp2_with fail
  refine (aw_blank _ s HZ.out C HC.out).mono ?_
  rintro e w4 ⟨rfl, f4⟩
  replace g := g.trans f4
  clear f4
  go_wp2_with fail
  refine (refBlank_any _ s HZ.out).mono ?_
  rw [HC.out]
  rintro e w5 ⟨rfl, rfl⟩
  go_wp2_with fail
  refine (awake_any _ (HL.out.kept g)).mono ?_
  rintro e w6 ⟨rfl, f6⟩
  replace g := g.trans f6
  clear f6
  go_wp2_with fail
  go_ret
  exact ⟨rfl, g⟩

theorem charsTexts_law (w : World) (L : LaidC w) (s : ByteArray) : Calls Tryd.prog 4 #[.string s] w fun e w' => e = .returned (.bool true) ∧ Fr [] w w' := by
  by_cases h : s.size ≤ 100000
  · exact charsTexts_short w L s h
  · exact charsTexts_long w L s (by omega)

end Go.Proofs.YtmhfbkafcpceiaaDoor
