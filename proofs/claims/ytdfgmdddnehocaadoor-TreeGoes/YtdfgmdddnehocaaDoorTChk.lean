/-
  TreeChecks: the walk.
-/
import Derived.Test.YtdfgmdddnehocaaDoorXLent
import Derived.Test.YtdfgmdddnehocaaDoorTRef2
namespace Go.Proofs.YtdfgmdddnehocaaDoor
open Go.RowKit Go.Maps Go.Lib

theorem lent_any (w : World) (ad : Option Addr) (c n : Nat) (t : List Nd) (hn : t.length = n) (hN : NodesAt w ad t) (hl : n ≤ 300) (hnil : ad = none → c = 0) :
    Calls Tryd.prog 9 #[.slice ad n c] w fun e w' => (∃ g cap, e = .returned (.slice (some ⟨g, 0, none⟩) n cap) ∧ LentN w' g cap t ∧ w.heap.size ≤ g) ∧ Fr [] w w' := by
  by_cases h0 : n = 0
  · subst h0
    have ht : t = [] := List.length_eq_zero_iff.1 hn
    cases ad with
    | none =>
      rw [hnil rfl]
      exact lent_nil w t ht
    | some x => exact lent_zero w x c t ht
  · obtain ⟨b, off, rfl, _⟩ := hN 0 (by omega)
    exact lent_some w b off c n t hn (fun i hi => by
      obtain ⟨b', off', e, q⟩ := hN i hi
      cases e
      exact q) (by omega) hl

set_option maxHeartbeats 8000000 in
set_option maxRecDepth 100000 in
theorem checks_law (w : World) (L : LaidW w) (ad : Option Addr) (c n : Nat) (t : List Nd) (hn : t.length = n) (hN : NodesAt w ad t) (hnil : ad = none → c = 0) (J1 J2 : Nat)
    (c1 : Hid (∀ w', LaidW w' → ∀ g cap, LentN w' g cap t → Calls Tryd.prog 10 #[.slice (some ⟨g, 0, none⟩) n cap] w' fun e w'' => e = .returned (.int .i64 (J1 : Int)) ∧ Fr [] w' w''))
    (c2 : Hid (∀ w', LaidW w' → ∀ g cap, LentN w' g cap t → Calls Tryd.prog 12 #[.slice (some ⟨g, 0, none⟩) n cap] w' fun e w'' => e = .returned (.int .i64 (J2 : Int)) ∧ Fr [] w' w''))
    (c3 : n ≤ 300 → Hid (∀ w', Fr [] w w' → Calls Tryd.prog 11 #[.slice ad n c] w' fun e w'' => e = .returned (.int .i64 (J1 : Int)) ∧ Fr [] w' w''))
    (c4 : n ≤ 300 → Hid (∀ w', Fr [] w w' → Calls Tryd.prog 13 #[.slice ad n c] w' fun e w'' => e = .returned (.int .i64 (J2 : Int)) ∧ Fr [] w' w'')) :
    Calls Tryd.prog 3 #[.slice ad n c] w fun e w' => e = .returned (.bool true) ∧ Fr [] w w' := by
  have cA := Hid.mk (awake_any w L)
  have HL := Hid.mk L
  have HA := Hid.mk hN
  have HN := Hid.mk hn
  by_cases hl : n ≤ 300
  · have hl' : ¬ (300 : Int) < (n : Int) := by omega
    have c3' := c3 hl
    have c4' := c4 hl
    have cL := Hid.mk (fun w' (f : Fr [] w w') => lent_any w' ad c n t hn (hN.kept f) hl hnil)
    clear L hN hn c3 c4 hnil
    go_enter Tryd.func3, Tryd.ntmps3
    go_wp2_with (first
      | (go_at_call 8; refine (cA.out).mono ?_; rintro e w1 ⟨rfl, f1⟩)
      | (go_at_call 9; refine (cL.out _ f1).mono ?_; rintro e w2 ⟨⟨g, cap, rfl, le2, hg⟩, f2⟩; have F2 := Hid.mk (f1.trans f2); have LE := Hid.mk le2; clear le2)
      | (go_at_call 10; refine (c1.out _ (HL.out.kept F2.out) g cap LE.out).mono ?_; rintro e w3 ⟨rfl, f3⟩; have F3 := Hid.mk (F2.out.trans f3); have LE3 := Hid.mk (LE.out.kept f3))
      | (go_at_call 11; refine (c3'.out _ F3.out).mono ?_; rintro e w4 ⟨rfl, f4⟩; have F4 := Hid.mk (F3.out.trans f4); have LE4 := Hid.mk (LE3.out.kept f4))
      | (go_at_call 12; refine (c2.out _ (HL.out.kept F4.out) g cap LE4.out).mono ?_; rintro e w5 ⟨rfl, f5⟩; have F5 := Hid.mk (F4.out.trans f5); have LE5 := Hid.mk (LE4.out.kept f5))
      | (go_at_call 13; refine (c4'.out _ F5.out).mono ?_; rintro e w6 ⟨rfl, f6⟩; have F6 := Hid.mk (F5.out.trans f6); have LE6 := Hid.mk (LE5.out.kept f6))
      | (go_at_call 14; refine (keptN_any _ g cap n c ad t HN.out hl LE6.out (HA.out.kept F6.out)).mono ?_; rintro e w7 ⟨rfl, f7⟩; have F7 := Hid.mk (F6.out.trans f7)))
    go_ret
    exact ⟨rfl, F7.out⟩
  · have hl' : (300 : Int) < (n : Int) := by omega
    clear L hN hn c3 c4 hnil c1 c2
    go_enter Tryd.func3, Tryd.ntmps3
    go_wp2_with (first
      | (go_at_call 8; refine (cA.out).mono ?_; rintro e w1 ⟨rfl, f1⟩))
    go_ret
    exact ⟨rfl, f1⟩
end Go.Proofs.YtdfgmdddnehocaaDoor
