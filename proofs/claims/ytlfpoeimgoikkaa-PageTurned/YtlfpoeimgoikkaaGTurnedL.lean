/-
  PageTurned: the law, for whatever comes in.
-/
import Derived.Test.YtlfpoeimgoikkaaGTur
namespace Go.Proofs.Ytlfpoeimgoikkaa
open Go.RowKit Go.Maps

set_option maxHeartbeats 2000000 in
set_option maxRecDepth 100000 in
theorem turned_long (w : World) (a1 a2 : Option Addr) (n1 c1 n2 c2 : Nat) (h : 5000 < n1 ∨ 5000 < n2) :
    Calls Try.prog 8 #[.slice a1 n1 c1, .slice a2 n2 c2] w fun r w' => r = .returned (.bool true) ∧ Fr [] w w' := by
  by_cases h1 : 5000 < n1
  · have hb1 : (5000 : Int) < n1 := by omega
    clear h h1
    go_enter Try.func8, Try.ntmps8
    go_wp2_with fail
    refine (awake_any _).mono ?_
    rintro e w0 ⟨rfl, f0⟩
    go_wp2_with fail
    go_ret
    exact ⟨rfl, f0⟩
  · have hb1 : ¬ (5000 : Int) < n1 := by omega
    have hb2 : (5000 : Int) < n2 := by omega
    clear h h1
    go_enter Try.func8, Try.ntmps8
    go_wp2_with fail
    refine (awake_any _).mono ?_
    rintro e w0 ⟨rfl, f0⟩
    go_wp2_with fail
    go_ret
    exact ⟨rfl, f0⟩

set_option maxHeartbeats 2000000 in
set_option maxRecDepth 100000 in
theorem turned_other (w : World) (a1 a2 : Option Addr) (n1 c1 n2 c2 : Nat) (k1 : n1 ≤ 5000) (k2 : n2 ≤ 5000) (h : n1 ≠ 512 ∨ n2 ≠ 512) :
    Calls Try.prog 8 #[.slice a1 n1 c1, .slice a2 n2 c2] w fun r w' => r = .returned (.bool true) ∧ Fr [] w w' := by
  have hc1 : ¬ (5000 : Int) < n1 := by omega
  have hc2 : ¬ (5000 : Int) < n2 := by omega
  have H : Hid (n1 ≠ 512 ∨ n2 ≠ 512) := h
  by_cases h1 : n1 = 512
  · have hb1 : ((n1 : Int) != 512) = false := by simp; omega
    have hb2 : ((n2 : Int) != 512) = true := by simp; omega
    clear h h1 k1 k2
    go_enter Try.func8, Try.ntmps8
    go_wp2_with fail
    refine (awake_any _).mono ?_
    rintro e w0 ⟨rfl, f0⟩
    go_wp2_with fail
    refine (diff_len _ a1 a2 n1 c1 n2 c2 H.out).mono ?_
    rintro e w1 ⟨rfl, f1⟩
    go_wp2_with fail
    go_ret
    exact ⟨rfl, f0.trans f1⟩
  · have hb1 : ((n1 : Int) != 512) = true := by simp; omega
    clear h h1 k1 k2
    go_enter Try.func8, Try.ntmps8
    go_wp2_with fail
    refine (awake_any _).mono ?_
    rintro e w0 ⟨rfl, f0⟩
    go_wp2_with fail
    refine (diff_len _ a1 a2 n1 c1 n2 c2 H.out).mono ?_
    rintro e w1 ⟨rfl, f1⟩
    go_wp2_with fail
    go_ret
    exact ⟨rfl, f0.trans f1⟩

theorem pageTurned_law (w : World) (a1 : Option Addr) (n1 c1 : Nat) (l1 : List UInt8) (h1 : SlAt w a1 n1 c1 l1) (_hs1 : n1 < 9223372036854775808) (_hz1 : a1 = none → c1 = 0) (a2 : Option Addr) (n2 c2 : Nat) (l2 : List UInt8) (h2 : SlAt w a2 n2 c2 l2) (_hs2 : n2 < 9223372036854775808) (_hz2 : a2 = none → c2 = 0) :
    Calls Try.prog 8 #[.slice a1 n1 c1, .slice a2 n2 c2] w fun e w' => e = .returned (.bool true) ∧ Fr [] w w' := by
  by_cases hl : 5000 < n1 ∨ 5000 < n2
  · exact turned_long w a1 a2 n1 c1 n2 c2 hl
  · by_cases h5 : n1 ≠ 512 ∨ n2 ≠ 512
    · exact turned_other w a1 a2 n1 c1 n2 c2 (by omega) (by omega) h5
    · obtain ⟨g1, o1, rfl, k1⟩ := h1.at512 (by omega)
      obtain ⟨g2, o2, rfl, k2⟩ := h2.at512 (by omega)
      obtain rfl : n1 = 512 := by omega
      obtain rfl : n2 = 512 := by omega
      exact turned_512 w g1 o1 c1 g2 o2 c2 l1 l2 k1 k2
end Go.Proofs.Ytlfpoeimgoikkaa
