/-
  The table of characters: whatIs.
-/
import Derived.Test.YtdfgmdddnehocabGreatDoorBase
import Derived.Test.YtdfgmdddnehocabGreatDoorCMath
namespace Go.Proofs.YtdfgmdddnehocabGreatDoor
open Go.RowKit Go.Maps

/-- The table lies as the text lays it. -/
def Spans (w : World) : Prop := ∀ j, j < 25 → w.cell? ⟨4, j * 3, none⟩ = some (.int .i32 (tab.getD j (0, 0, 0)).1) ∧ w.cell? ⟨4, j * 3 + 1, none⟩ = some (.int .i32 (tab.getD j (0, 0, 0)).2.1) ∧ w.cell? ⟨4, j * 3 + 2, none⟩ = some (.int .u8 ((tab.getD j (0, 0, 0)).2.2 : Nat))
theorem cell_lt {w : World} {b off : Nat} {v : Value} (h : w.cell? ⟨b, off, none⟩ = some v) : b < w.heap.size := by
  unfold World.cell? at h
  simp only at h
  cases hb : w.heap[b]? with
  | none => rw [hb] at h; cases h
  | some o => exact (Array.getElem?_eq_some_iff.1 hb).1
theorem cell_fr {w w' : World} {b off : Nat} {v : Value} {L : List Nat} (f : Fr L w w') (hb : b ∉ L) (h : w.cell? ⟨b, off, none⟩ = some v) : w'.cell? ⟨b, off, none⟩ = some v := by
  have hlt := cell_lt h
  unfold World.cell? at h ⊢
  simp only at h ⊢
  rw [f.block b hlt hb]
  exact h
theorem Spans.kept {w w' : World} (h : Spans w) (f : Fr [] w w') : Spans w' := fun j hj =>
  ⟨cell_fr f (by simp) (h j hj).1, cell_fr f (by simp) (h j hj).2.1, cell_fr f (by simp) (h j hj).2.2⟩

theorem look_step (j : Nat) (hj : j < 25) (r : Int) : look (tab.drop j) r = if (tab.getD j (0, 0, 0)).1 ≤ r ∧ r ≤ (tab.getD j (0, 0, 0)).2.1 then (tab.getD j (0, 0, 0)).2.2 else look (tab.drop (j + 1)) r := by
  have hl : j < tab.length := by rw [tab_length]; exact hj
  rw [List.drop_eq_getElem_cons hl]
  have e : tab.getD j (0, 0, 0) = tab[j] := by simp [List.getD, hl]
  rw [e]
  rfl

set_option maxHeartbeats 1000000 in
set_option maxRecDepth 100000 in
theorem whatIs_any (w : World) (hS : Spans w) (r : Int) :
    Calls Tryz.prog 108 #[.int .i32 r] w fun e w' => e = .returned (.int .u8 (what r : Nat)) ∧ Fr [] w w' := by
  obtain ⟨ANS, hA⟩ : ∃ A, what r = A := ⟨_, rfl⟩
  rw [hA]
  have HA : Hid (look tab r = ANS) := by rw [look_tab]; exact hA
  have HS : Hid (Spans w) := hS
  clear hA hS
  go_enter Tryz.func108, Tryz.ntmps108
  go_wp2
  go_loopw [4] (fun i wr => ∃ j : Nat, j ≤ 25 ∧ i = .int .i64 j ∧ wr = w ∧ Hid (look (tab.drop j) r = ANS)) (fun i _ => 25 - (intOf i).toNat)
  case atStart => exact ⟨0, by omega, rfl, rfl, HA.out⟩
  case round =>
    obtain ⟨j, hj, rfl, rfl, hL⟩ := hrel
    by_cases hlt : j < 25
    · have hlt' : (j : Int) < 25 := by omega
      have hj0 : (0 : Int) ≤ (j : Int) := by omega
      obtain ⟨c0, c1, c2⟩ := HS.out j hlt
      have hst := look_step j hlt r
      generalize tab.getD j (0, 0, 0) = T at c0 c1 c2 hst
      obtain ⟨A, B, C⟩ := T
      simp only at c0 c1 c2 hst
      by_cases h1 : A ≤ r
      · by_cases h2 : r ≤ B
        · rw [if_pos ⟨h1, h2⟩] at hst
          have HC : Hid (C = ANS) := hst.symm.trans hL.out
          clear hst
          go_wp2
          go_ret
          exact ⟨by rw [HC.out]; rfl, Fr.refl _ _⟩
        · rw [if_neg (fun h => h2 h.2)] at hst
          have HC : Hid (look (tab.drop (j + 1)) r = ANS) := hst.symm.trans hL.out
          clear hst
          go_wp2
          exact ⟨⟨j + 1, by omega, by go_num, trivial, HC⟩, by simp [intOf]; omega⟩
      · rw [if_neg (fun h => h1 h.1)] at hst
        have HC : Hid (look (tab.drop (j + 1)) r = ANS) := hst.symm.trans hL.out
        clear hst
        go_wp2
        exact ⟨⟨j + 1, by omega, by go_num, trivial, HC⟩, by simp [intOf]; omega⟩
    · obtain rfl : j = 25 := by omega
      have HC : Hid (0 = ANS) := hL.out
      go_wp2
      go_ret
      exact ⟨by rw [← HC.out]; rfl, Fr.refl _ _⟩

theorem ge_cast (a k : Nat) : decide ((a : Int) ≤ (k : Int)) = decide (a ≤ k) := decide_eq_decide.2 ⟨fun h => by omega, fun h => by omega⟩
theorem char_any (w : World) (hS : Spans w) (r : Int) :
    Calls Tryz.prog 111 #[.int .i32 r] w fun e w' => e = .returned (.bool (txt r)) ∧ Fr [] w w' := by
  have c := whatIs_any w hS r
  rw [← what_txt]
  clear hS
  generalize what r = k at c ⊢
  go_enter Tryz.func111, Tryz.ntmps111
  go_wp2_with (go_at_call 108; refine c.mono ?_; rintro e w5 ⟨rfl, f5⟩)
  go_ret
  exact ⟨congrArg (fun b => Ending.returned (Value.bool b)) (ge_cast 1 k), f5⟩
end Go.Proofs.YtdfgmdddnehocabGreatDoor
