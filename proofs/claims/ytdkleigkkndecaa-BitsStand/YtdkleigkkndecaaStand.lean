/-
  BitsStand, walked.
-/
import Derived.Test.YtdkleigkkndecaaRef
namespace Go.Proofs.Ytdkleigkkndecaa
open Go.RowKit Go.Lib

set_option maxHeartbeats 4000000 in
set_option maxRecDepth 100000 in
theorem stand_big (w : World) (a b : ByteArray) (ha : a.size < 140737488355328) (hb : b.size < 140737488355328) (h : 5000 < a.size + b.size) :
    Calls Try.prog 5 #[.string a, .string b] w fun e w' => e = .returned (.bool true) ∧ Fr [] w w' := by
  have h1 : (5000 : Int) < (a.size : Int) + (b.size : Int) := by omega
  have h2 : (a.size : Int) < 140737488355328 := by omega
  have h3 : (b.size : Int) < 140737488355328 := by omega
  clear h ha hb
  go_enter Try.func5, Try.ntmps5
  go_wp2_with (go_at_call 9; refine (awake_any _).mono ?_; rintro e w0 ⟨rfl, f0⟩)
  go_ret
  exact ⟨rfl, f0⟩

set_option maxHeartbeats 4000000 in
set_option maxRecDepth 100000 in
theorem stand_small (w : World) (a b : ByteArray) (h : a.size + b.size ≤ 5000) :
    Calls Try.prog 5 #[.string a, .string b] w fun e w' => e = .returned (.bool true) ∧ Fr [] w w' := by
  have h1 : (a.size : Int) + (b.size : Int) ≤ 5000 := by omega
  have h2 : (a.size : Int) ≤ 5000 := by omega
  have h3 : (b.size : Int) ≤ 5000 := by omega
  have k1 : a.size ≤ 1048576 := by omega
  have k2 : b.size ≤ 1048576 := by omega
  have k3 : a.size < 9223372036854775808 := by omega
  have k4 : b.size < 9223372036854775808 := by omega
  clear h
  go_enter Try.func5, Try.ntmps5
  go_wp2_with (go_at_call 9; refine (awake_any _).mono ?_; rintro e w0 ⟨rfl, f0⟩)
  refine (of_in _ a k1).mono ?_
  rintro e w1 ⟨hd, f1⟩
  have g1 := f0.trans f1
  rcases hd with ⟨⟨u, rfl, hu⟩, hall⟩ | ⟨rfl, hno⟩
  · have b1 := Box.new w1 u a.size
    have g1a := g1.alloc (.cells #[.string u, .int .i64 (a.size : Int)] 24)
    go_wp2_with fail
    refine (of_in _ b k2).mono ?_
    rintro e w2 ⟨hd2, f2⟩
    have g2 := g1a.trans f2
    rcases hd2 with ⟨⟨v, rfl, hv⟩, hall2⟩ | ⟨rfl, hno2⟩
    · have c1 := (b1.kept f2 (by simp)).kept ((Fr.refl [] w2).alloc (.cells #[.string v, .int .i64 (b.size : Int)] 24)) (by simp)
      have q0 := c1.c0
      have q1 := c1.c1
      have b2 := Box.new w2 v b.size
      have g2a := g2.alloc (.cells #[.string v, .int .i64 (b.size : Int)] 24)
      have HS : Hid (stand (said (bl a)) (said (bl b)) = compareBytes (bl a) (bl b)) := stand_said hall hall2
      have HB : Hid (((said (bl a)).take b.size == said (bl b)) = ((bl a).take b.size == bl b)) := beg_said hall hall2
      clear hall hall2
      go_wp2_with fail
      refine (compare_any _ u v a.size b.size _ _ hu hv).mono ?_
      rw [HS.out]
      rintro e w3 ⟨rfl, f3⟩
      have g3 := g2a.trans f3
      have d1 := c1.kept f3 (by simp)
      have d2 := b2.kept f3 (by simp)
      clear q0 q1
      go_wp2_with fail
      refine (rcompare_any _ a b k3 k4).mono ?_
      rintro e w4 ⟨rfl, f4⟩
      have g4 := g3.trans f4
      have r0 := (d1.kept f4 (by simp)).c0
      have r1 := (d1.kept f4 (by simp)).c1
      have r2 := (d2.kept f4 (by simp)).c0
      have r3 := (d2.kept f4 (by simp)).c1
      go_wp2_with fail
      refine (begins_any _ u v a.size b.size _ _ hu hv).mono ?_
      rw [HB.out]
      rintro e w5 ⟨rfl, f5⟩
      have g5 := g4.trans f5
      go_wp2_with fail
      refine (rbegins_any _ a b).mono ?_
      rintro e w6 ⟨rfl, f6⟩
      have g6 := g5.trans f6
      go_wp2_with fail
      go_ret
      exact ⟨by simp, g6⟩
    · go_wp2_with fail
      go_ret
      exact ⟨rfl, g2.alloc _⟩
  · have g1a := g1.alloc (.cells #[.string (mkS []), .int .i64 ((0 : Nat) : Int)] 24)
    go_wp2_with fail
    refine (of_in _ b k2).mono ?_
    rintro e w2 ⟨hd2, f2⟩
    have g2 := g1a.trans f2
    rcases hd2 with ⟨⟨v, rfl, hv⟩, _⟩ | ⟨rfl, _⟩
    · go_wp2_with fail
      go_ret
      exact ⟨rfl, g2.alloc _⟩
    · go_wp2_with fail
      go_ret
      exact ⟨rfl, g2.alloc _⟩

theorem stand_law (w : World) (a b : ByteArray) (ha : a.size < 140737488355328) (hb : b.size < 140737488355328) :
    Calls Try.prog 5 #[.string a, .string b] w fun e w' => e = .returned (.bool true) ∧ Fr [] w w' := by
  by_cases h : 5000 < a.size + b.size
  · exact stand_big w a b ha hb h
  · exact stand_small w a b (by omega)

end Go.Proofs.Ytdkleigkkndecaa
