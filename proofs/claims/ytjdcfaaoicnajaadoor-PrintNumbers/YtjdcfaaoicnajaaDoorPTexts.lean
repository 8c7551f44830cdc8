/-
  PrintTexts: the walk.
-/
import Derived.Test.YtjdcfaaoicnajaaDoorPRef2
namespace Go.Proofs.YtjdcfaaoicnajaaDoor
open Go.RowKit Go.Maps Go.Lib

set_option maxHeartbeats 4000000 in
set_option maxRecDepth 100000 in
theorem texts_law (w : World) (L : LaidW w) (s : ByteArray) (hs : s.size < 140737488355328) :
    Calls Tryd.prog 4 #[.string s] w fun e w' => e = .returned (.bool true) ∧ Fr [] w w' := by
  have cA := Hid.mk (fun w' (f : Fr [] w w') => pawake_any w' (L.kept f))
  by_cases hl : s.size ≤ 60000
  · have hl' : ¬ (60000 : Int) < (s.size : Int) := by omega
    have c1 := Hid.mk (fun w' => Escape_any w' s (by omega))
    have c2 := Hid.mk (fun w' => refEscape_any w' s (by omega))
    have c3 := Hid.mk (fun w' => Quote_any w' s (by omega))
    have c4 := Hid.mk (fun w' => refQuote_any w' s (by omega))
    generalize mkS (escT s) = X at c1 c2
    generalize mkS (quoV s) = Y at c3 c4
    clear L hs hl
    go_enter Tryd.func4, Tryd.ntmps4
    go_wp2_with fail
    refine (c1.out _).mono ?_
    rintro e w1 ⟨rfl, f1⟩
    go_wp2_with fail
    refine (c2.out _).mono ?_
    rintro e w2 ⟨rfl, f2⟩
    go_wp2_with fail
    refine (c3.out _).mono ?_
    rintro e w3 ⟨rfl, f3⟩
    go_wp2_with fail
    refine (c4.out _).mono ?_
    rintro e w4 ⟨rfl, f4⟩
    have F4 := Hid.mk (((f1.trans f2).trans f3).trans f4)
    clear f1 f2 f3 f4
    go_wp2_with fail
    refine (cA.out _ F4.out).mono ?_
    rintro e w5 ⟨rfl, f5⟩
    go_wp2_with fail
    go_ret
    exact ⟨rfl, F4.out.trans f5⟩
  · have hl' : (60000 : Int) < (s.size : Int) := by omega
    clear L
    go_enter Tryd.func4, Tryd.ntmps4
    go_wp2_with fail
    refine (cA.out _ (Fr.refl _ _)).mono ?_
    rintro e w5 ⟨rfl, f5⟩
    go_wp2_with fail
    go_ret
    exact ⟨rfl, f5⟩
end Go.Proofs.YtjdcfaaoicnajaaDoor
