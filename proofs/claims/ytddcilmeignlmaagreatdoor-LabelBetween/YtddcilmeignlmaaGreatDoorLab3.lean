/-
  Labels: the closure of stepBetween, and stepBetween; stepUnder.
-/
import Derived.Test.YtddcilmeignlmaaGreatDoorLab2
namespace Go.Proofs.YtddcilmeignlmaaGreatDoor
open Go.RowKit Go.Maps Go.Lib

/-- What is just below a step, as bits without an end: a 0 for its last 1, then 1s. -/
def belowB (h : List Bool) (i : Nat) : Bool := if i + 1 = h.length then false else if h.length ≤ i then true else h.getD i false

set_option maxHeartbeats 2000000 in
set_option maxRecDepth 100000 in
theorem below_any (w : World) (Bh : Nat) (s : ByteArray) (n : Nat) (h : List Bool) (hr : Rep s n h) (hB : Box w Bh s n) (i : Nat) (hi : i ≤ 100000) :
    Calls Tryz.prog 66 #[.int .i64 (i : Int), .pointer (some ⟨Bh, 0, none⟩)] w fun e w' => e = .returned (.int .i64 (bitN (belowB h i))) ∧ Fr [] w w' := by
  have hl := hr.len
  have hm := hr.most
  have hm' : (n : Int) ≤ 1048576 := by omega
  have hn0 : (0 : Int) ≤ (n : Int) := by omega
  have hi0 : (0 : Int) ≤ (i : Int) := by omega
  have hi' : (i : Int) ≤ 100000 := by omega
  have c0 := hB.c0
  have c1 := hB.c1
  have HL : Hid (h.length = n) := hl
  have HB : Hid (∀ w', Fr [] w w' → w'.cell? ⟨Bh, 0, none⟩ = some (.string s) ∧ w'.cell? ⟨Bh, 1, none⟩ = some (.int .i64 (n : Int))) := fun w' f => ⟨(hB.kept f (by simp)).c0, (hB.kept f (by simp)).c1⟩
  clear hl hm
  by_cases h1 : i + 1 = n
  · have e1 : ((i : Int) == (n : Int) - 1) = true := by simp; omega
    have hv : belowB h i = false := by unfold belowB; rw [if_pos (by rw [HL.out]; exact h1)]
    rw [hv]
    clear hv
    show Calls _ _ _ _ fun e w' => e = .returned (.int .i64 0) ∧ Fr [] w w'
    go_enter Tryz.func66, Tryz.ntmps66
    go_wp2_with (go_at_call 34; refine (len_any _ s n).mono ?_; rintro e w1 ⟨rfl, f1⟩)
    go_ret
    exact ⟨rfl, f1⟩
  · have e1 : ((i : Int) == (n : Int) - 1) = false := by simp; omega
    by_cases h2 : n ≤ i
    · have e2 : decide ((n : Int) ≤ (i : Int)) = true := by simp; omega
      have hv : belowB h i = true := by unfold belowB; rw [if_neg (by rw [HL.out]; exact h1), if_pos (by rw [HL.out]; exact h2)]
      rw [hv]
      clear hv
      show Calls _ _ _ _ fun e w' => e = .returned (.int .i64 1) ∧ Fr [] w w'
      have ff := Fr.refl [] w
      go_enter Tryz.func66, Tryz.ntmps66
      go_wp2_with (go_at_call 34; refine (len_any _ s n).mono ?_; rintro e w1 ⟨rfl, f1⟩; replace ff := ff.trans f1; obtain ⟨d0, d1⟩ := HB.out _ ff)
      go_ret
      exact ⟨rfl, ff⟩
    · have e2 : decide ((n : Int) ≤ (i : Int)) = false := by simp; omega
      have hv : belowB h i = h.getD i false := by unfold belowB; rw [if_neg (by rw [HL.out]; exact h1), if_neg (by rw [HL.out]; exact h2)]
      have hin : i < n := by omega
      rw [hv]
      clear hv
      have ff := Fr.refl [] w
      go_enter Tryz.func66, Tryz.ntmps66
      go_wp2_with (first | (go_at_call 34; refine (len_any _ s n).mono ?_; rintro e w1 ⟨rfl, f1⟩; replace ff := ff.trans f1; obtain ⟨d0, d1⟩ := HB.out _ ff) | (go_at_call 54; refine (at_in _ s n h hr i hin).mono ?_; rintro e w2 ⟨rfl, f2⟩))
      go_ret
      exact ⟨rfl, ff.trans f2⟩

/-- The bits that a step between goes along with, and where they part. -/
structure Parts (lo hi : List Bool) (k : Nat) : Prop where
  along : ∀ i, i < k → lo.getD i false = belowB hi i
  part : lo.getD k false ≠ belowB hi k
/-- The step between. -/
def midS (lo : List Bool) (k : Nat) : List Bool := (List.range k).map (fun i => lo.getD i false) ++ [true]

theorem max_at (r : List Bool) (i : Nat) : max (atI r (i : Int)) 0 = bitN (r.getD i false) := by
  unfold atI
  split
  · rename_i hc
    rw [Int.toNat_natCast]
    cases r.getD i false <;> rfl
  · rename_i hc
    have : r.length ≤ i := by omega
    rw [List.getD_eq_getElem?_getD, List.getElem?_eq_none this]
    rfl

end Go.Proofs.YtddcilmeignlmaaGreatDoor
