/-
  Pick.
-/
import Derived.Test.YtdfgmdddnehocabDoorTNodes
namespace Go.Proofs.YtdfgmdddnehocabDoor
open Go.RowKit Go.Maps

theorem i64_bounds {x : Int} (h : (Lit.int .i64 x).wf = true) : -9223372036854775808 ≤ x ∧ x ≤ 9223372036854775807 := by
  simp [Lit.wf, show IntKind.i64.min = -9223372036854775808 from rfl, show IntKind.i64.max = 9223372036854775807 from rfl] at h
  exact h

theorem tmod_neg {x n : Int} (h1 : 1 ≤ n) (h : x.tmod n < 0) : x.tmod n + n = x % n := by
  have e := Int.tmod_eq_emod (a := x) (b := n)
  have h2 := Int.emod_nonneg x (show n ≠ 0 by omega)
  split at e <;> omega
theorem tmod_pos {x n : Int} (h1 : 1 ≤ n) (h : 0 ≤ x.tmod n) : x.tmod n = x % n := by
  have e := Int.tmod_eq_emod (a := x) (b := n)
  have h2 := Int.emod_lt_of_pos x (show 0 < n by omega)
  split at e <;> omega
theorem wrap64_small {v : Int} (h0 : -9223372036854775808 ≤ v) (h1 : v ≤ 9223372036854775807) : wrap64 v = v := by
  unfold wrap64
  omega

theorem ret_int {k : IntKind} {a b : Int} (h : a = b) : Ending.returned (.int k a) = .returned (.int k b) := by rw [h]

set_option maxHeartbeats 400000 in
theorem pick_any (w : World) (x n : Int) (hx : (Lit.int .i64 x).wf = true) (h1 : 1 ≤ n) (h2 : n ≤ 1000000) :
    Calls Tryd.prog 6 #[.int .i64 x, .int .i64 n] w fun e w' => e = .returned (.int .i64 (x % n)) ∧ w' = w := by
  obtain ⟨b1, b2⟩ := i64_bounds hx
  have hn : ¬ n < 1 := by omega
  have g1 := Int.emod_nonneg x (show n ≠ 0 by omega)
  have g2 := Int.emod_lt_of_pos x (show 0 < n by omega)
  by_cases hneg : x.tmod n < 0
  · have e1 : Hid (wrap64 (x.tmod n + n) = x % n) := by rw [tmod_neg h1 hneg]; exact wrap64_small (by omega) (by omega)
    clear g1 g2
    go_enter Tryd.func6, Tryd.ntmps6
    go_wp2
    go_ret
    exact ⟨ret_int e1.out, rfl⟩
  · have e1 : Hid (x.tmod n = x % n) := tmod_pos h1 (by omega)
    clear g1 g2
    go_enter Tryd.func6, Tryd.ntmps6
    go_wp2
    go_ret
    exact ⟨ret_int e1.out, rfl⟩
end Go.Proofs.YtdfgmdddnehocabDoor
