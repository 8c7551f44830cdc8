/-
  A number found in a row of one: slices.BinarySearch; records as results.
-/
import Derived.Test.YticmjdblcomecaaGreatQApp
namespace Go.Proofs.YticmjdblcomecaaGreat
open Go.RowKit Go.Maps

set_option maxHeartbeats 400000 in
theorem nan1_any (w : World) (x : Int) : Calls Tryz.prog 113 #[.int .i64 x] w fun e w' => e = .returned (.bool false) ∧ w' = w := by
  have h : (x != x) = false := by simp
  go_enter Tryz.func113, Tryz.ntmps113
  go_wp2
  go_ret
  exact ⟨rfl, rfl⟩
set_option maxHeartbeats 400000 in
theorem less_same (w : World) (x : Int) : Calls Tryz.prog 88 #[.int .i64 x, .int .i64 x] w fun e w' => e = .returned (.bool false) ∧ w' = w := by
  have h : ¬ x < x := by omega
  go_enter Tryz.func88, Tryz.ntmps88
  go_wp2_with (go_at_call 113; refine (nan1_any _ _).mono ?_; rintro e w' ⟨rfl, rfl⟩)
  go_ret
  exact ⟨rfl, rfl⟩
set_option maxHeartbeats 400000 in
set_option maxRecDepth 100000 in
theorem bin_one (w : World) (g c : Nat) (k : Int) (hg : w.cell? ⟨g, 0, none⟩ = some (.int .i64 k)) : Calls Tryz.prog 49 #[.slice (some ⟨g, 0, none⟩) 1 c, .int .i64 k] w fun e w' => e = .returned (.tuple #[.int .i64 0, .bool true]) ∧ w' = w := by
  have hk : (k == k) = true := by simp
  go_enter Tryz.func49, Tryz.ntmps49
  go_wp2
  go_loopw [7, 8] (fun i j wr => i = .int .i64 0 ∧ wr = w ∧ (j = .int .i64 1 ∨ j = .int .i64 0)) (fun _ j _ => (intOf j).toNat)
  case atStart => exact ⟨rfl, rfl, Or.inl rfl⟩
  case round =>
    obtain ⟨rfl, hwr, hj⟩ := hrel
    subst hwr
    rcases hj with rfl | rfl
    · go_wp2_with (go_at_call 88; refine (less_same _ _).mono ?_; rintro e wr ⟨rfl, rfl⟩)
      exact ⟨by simp, by simp [intOf]⟩
    · go_wp2_with fail
      go_ret2
      exact ⟨rfl, rfl⟩

theorem resR1 {fn : Func} {p : Tmp} (h : fn.results = #[.cell p 27]) (tmps : Array Value) (w : World) (b : Nat) (r : Rec) (s : Spots) (hp : tmps.getD p undef = .pointer (some ⟨b, 0, none⟩)) (hg : RBox w b r s) :
    (results fn tmps).run Tryz.prog w = .ok (.agg (recV r s)) w := by
  have hl := run_loadVar_row w b 27 27 (recV r s) (0, 0) _ hg Tryz.underlying27 rfl (by rw [sizeR]; rfl)
  have hp2 : tmps[p]?.getD undef = .pointer (some ⟨b, 0, none⟩) := by simpa using hp
  simp only [results, h]
  simp [hp2, asAddr, hl]
theorem resR2 {fn : Func} {p q : Tmp} (h : fn.results = #[.cell p 27, .tmp q]) (tmps : Array Value) (w : World) (b : Nat) (r : Rec) (s : Spots) (hp : tmps.getD p undef = .pointer (some ⟨b, 0, none⟩)) (hg : RBox w b r s) :
    (results fn tmps).run Tryz.prog w = .ok (.tuple #[.agg (recV r s), tmps.getD q undef]) w := by
  have hl := run_loadVar_row w b 27 27 (recV r s) (0, 0) _ hg Tryz.underlying27 rfl (by rw [sizeR]; rfl)
  have hp2 : tmps[p]?.getD undef = .pointer (some ⟨b, 0, none⟩) := by simpa using hp
  simp only [results, h]
  simp [hp2, asAddr, hl]

end Go.Proofs.YticmjdblcomecaaGreat
