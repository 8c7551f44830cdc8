/-
  Devices that are not there, or have no master: what Read, Format, Write and New answer of them.
-/
import Derived.Test.YtopaeomjndblkaaGreatX13Z
namespace Go.Proofs.YtopaeomjndblkaaGreat
open Go.RowKit Go.Maps

theorem nodev (w : World) : Dv.NoDev w (.pointer none) := by first | exact Or.inl rfl | exact Dv.NoDev.nil w | (unfold Dv.NoDev; simp)
set_option maxRecDepth 100000 in
theorem mread_nil (w : World) : Calls Tryz.prog 35 #[.pointer none] w fun e w' => e = .returned (.tuple #[.agg (mV ⟨0, 0, 0⟩), .int .i64 1]) ∧ Fr [] w w' := by
  have f1 : Fr [] w (w.alloc (.cells #[.int .i64 0, .int .i64 0, .int .i64 0] 72)) := (Fr.refl [] w).alloc _
  have hM := heap_alloc_new w (.cells #[.int .i64 0, .int .i64 0, .int .i64 0] 72)
  obtain ⟨w1, hw1⟩ : ∃ w1, w.alloc (.cells #[.int .i64 0, .int .i64 0, .int .i64 0] 72) = w1 := ⟨_, rfl⟩
  rw [hw1] at f1 hM
  go_enter Tryz.func35, Tryz.ntmps35
  go_wp2_with (first
    | (go_at_call 120; refine (Dv.blocks_none _ _ (nodev _)).mono ?_; rintro e w3 ⟨rfl, hz⟩; rw [hz]; clear hz)
    | (refine wp_storeM rfl _ _ rfl w.heap.size ⟨0, 0, 0⟩ ⟨0, 0, 0⟩ rfl rfl hM ?_; intro w7 r7 f7))
  exact bodyPost_ret (resM2 Tryz.results35 _ _ _ ⟨0, 0, 0⟩ rfl r7) rfl ⟨rfl, f1.then f7 (fun i hi e => by simp at e; omega)⟩
set_option maxRecDepth 100000 in
theorem format_nil (w : World) : Calls Tryz.prog 37 #[.pointer none] w fun e w' => e = .returned (.int .i64 1) ∧ Fr [] w w' := by
  have f1 : Fr [] w (w.alloc (.cells #[.pointer none] 24)) := (Fr.refl [] w).alloc _
  have bx := heap_alloc_new w (.cells #[.pointer none] 24)
  obtain ⟨w1, hw1⟩ : ∃ w1, w.alloc (.cells #[.pointer none] 24) = w1 := ⟨_, rfl⟩
  rw [hw1] at f1 bx
  have x0 := cell_of_row w1 w.heap.size 0 _ _ _ bx
  go_enter Tryz.func37, Tryz.ntmps37
  go_wp2_with (go_at_call 120; refine (Dv.blocks_none _ _ (nodev _)).mono ?_; rintro e w3 ⟨rfl, hz⟩; rw [hz]; clear hz)
  go_ret
  exact ⟨rfl, f1⟩
set_option maxRecDepth 100000 in
theorem format_few (w : World) (d bs bo : Nat) (nb : Int) (S O : Dv.Tab) (hd : Dv.Dev w d bs bo nb 0 false S O) (h0 : 0 < nb) (hn : nb < 24) :
    Calls Tryz.prog 37 #[.pointer (some ⟨d, 0, none⟩)] w fun e w' => e = .returned (.int .i64 2) ∧ Fr [] w w' := by
  have z0 : ¬ nb = 0 := by omega
  have f1 : Fr [] w (w.alloc (.cells #[.pointer (some ⟨d, 0, none⟩)] 24)) := (Fr.refl [] w).alloc _
  have bx := heap_alloc_new w (.cells #[.pointer (some ⟨d, 0, none⟩)] 24)
  obtain ⟨w1, hw1⟩ : ∃ w1, w.alloc (.cells #[.pointer (some ⟨d, 0, none⟩)] 24) = w1 := ⟨_, rfl⟩
  rw [hw1] at f1 bx
  have D1 := hidI (dev_kept hd f1 (by simp) (by simp) (by simp))
  have x0 := cell_of_row w1 w.heap.size 0 _ _ _ bx
  clear hd
  go_enter Tryz.func37, Tryz.ntmps37
  go_wp2_with (go_at_call 120; refine (Dv.blocks_dev D1.out).mono ?_; rintro e w3 ⟨rfl, hz⟩; rw [hz]; clear hz)
  go_ret
  exact ⟨rfl, f1⟩
set_option maxRecDepth 100000 in
theorem mwrite_nil (w : World) (p q r : Int) : Calls Tryz.prog 38 #[.pointer none, .agg #[.int .i64 p, .int .i64 q, .int .i64 r]] w fun e w' => e = .returned (.int .i64 1) ∧ Fr [] w w' := by
  have s1 : (w.alloc (.cells #[.pointer none] 24)).heap.size = w.heap.size + 1 := by simp
  have bx := (((Fr.refl [] (w.alloc (.cells #[.pointer none] 24))).alloc (.cells #[.int .i64 p, .int .i64 q, .int .i64 r] 72))).same (by simp) (heap_alloc_new w (.cells #[.pointer none] 24))
  have f1 : Fr [] w ((w.alloc (.cells #[.pointer none] 24)).alloc (.cells #[.int .i64 p, .int .i64 q, .int .i64 r] 72)) := ((Fr.refl [] w).alloc _).alloc _
  obtain ⟨w1, hw1⟩ : ∃ w1, (w.alloc (.cells #[.pointer none] 24)).alloc (.cells #[.int .i64 p, .int .i64 q, .int .i64 r] 72) = w1 := ⟨_, rfl⟩
  rw [hw1] at f1 bx
  have x0 := cell_of_row w1 w.heap.size 0 _ _ _ bx
  go_enter Tryz.func38, Tryz.ntmps38
  go_wp2_with (go_at_call 120; refine (Dv.blocks_none _ _ (nodev _)).mono ?_; rintro e w3 ⟨rfl, hz⟩; rw [hz]; clear hz)
  go_ret
  exact ⟨rfl, f1⟩
set_option maxHeartbeats 2000000 in
set_option maxRecDepth 100000 in
/-- A device in whose first two blocks nothing stands. -/
theorem mread_none (w : World) (d bs bo : Nat) (nb a : Int) (S O : Dv.Tab) (hd : Dv.Dev w d bs bo nb a false S O) (hn : 2 ≤ nb) (h0 : ∀ j : Int, 0 ≤ j → j < 2 → Dv.latest S O j = zs 512) :
    Calls Tryz.prog 35 #[.pointer (some ⟨d, 0, none⟩)] w fun e w' => e = .returned (.tuple #[.agg (mV ⟨0, 0, 0⟩), .int .i64 4]) ∧ Fr [] w w' := by
  have f1 : Fr [] w (w.alloc (.cells #[.int .i64 0, .int .i64 0, .int .i64 0] 72)) := (Fr.refl [] w).alloc _
  have hM := heap_alloc_new w (.cells #[.int .i64 0, .int .i64 0, .int .i64 0] 72)
  have hs1 : (w.alloc (.cells #[.int .i64 0, .int .i64 0, .int .i64 0] 72)).heap.size = w.heap.size + 1 := by simp
  obtain ⟨w1, hw1⟩ : ∃ w1, w.alloc (.cells #[.int .i64 0, .int .i64 0, .int .i64 0] 72) = w1 := ⟨_, rfl⟩
  rw [hw1] at f1 hM hs1
  have f2 : Fr [] w1 (w1.alloc (.cells #[.int .i64 0, .int .i64 0, .int .i64 0] 72)) := (Fr.refl [] w1).alloc _
  have hA := heap_alloc_new w1 (.cells #[.int .i64 0, .int .i64 0, .int .i64 0] 72)
  obtain ⟨w2, hw2⟩ : ∃ w2, w1.alloc (.cells #[.int .i64 0, .int .i64 0, .int .i64 0] 72) = w2 := ⟨_, rfl⟩
  rw [hw2] at f2 hA
  rw [hs1] at hA
  have hM2 := f2.same (by simp) hM
  have HD := hidI hd
  have D1 := hidI (dev_kept hd f1 (by simp) (by simp) (by simp))
  have z0 : ¬ nb = 0 := by omega
  have H0 := hidI h0
  clear h0
  go_enter Tryz.func35, Tryz.ntmps35
  go_wp2_with (go_at_call 120; refine (Dv.blocks_dev D1.out).mono ?_; rintro e w3 ⟨rfl, hz⟩; rw [hz]; clear hz)
  go_loopw [13] (fun s13 wr => ∃ j : Nat, s13 = .int .i64 (j : Int) ∧ j ≤ 2 ∧ Hid (MBox wr (w.heap.size + 1) ⟨0, 0, 0⟩ ∧ Fr [w.heap.size + 1] w2 wr)) (fun i _ => 2 - (intOf i).toNat)
  case atStart => exact ⟨0, rfl, by omega, hidI ⟨hA, Fr.refl _ _⟩⟩
  case round =>
    obtain ⟨j, rfl, hj, HR⟩ := hrel
    have FW := hidI (((f1.trans f2).then HR.out.2 (fun i hi e => by simp at e; omega)) : Fr [] w wr)
    have MR := hidI (HR.out.2.same (by simp) hM2)
    have L0 : MBox wr (w.heap.size + 1) ⟨0, 0, 0⟩ := HR.out.1
    by_cases hlt : j < 2
    · go_wp2_with fail
      refine (dread (dev_kept HD.out FW.out (by simp) (by simp) (by simp)) (j : Int) (by omega) (by omega)).mono ?_
      rintro e w4 ⟨g, rfl, b4, hg, g4⟩
      rw [H0.out (j : Int) (by omega) (by omega)] at b4
      go_wp2_with fail
      refine (standing_any w4 g 512 _ _ _ (Stands.none (j : Int)) b4 (by omega)).mono ?_
      rintro e w5 ⟨rfl, g5⟩
      have f6 : Fr [] w5 (w5.alloc (.cells #[.int .i64 0, .int .i64 0, .int .i64 0] 72)) := (Fr.refl [] w5).alloc _
      have L6 := f6.same (by simp) (g5.same (by simp) (g4.same (by simp) L0))
      have c60 := cell_of_row _ (w.heap.size + 1) 0 _ _ _ L6
      have G6 := hidI (HR.out.2.trans ((g4.trans (g5.trans f6)).mono (by simp)))
      simp only [mV]
      go_wp2_with fail
      exact ⟨⟨_, _, _, _, _, _, ⟨j + 1, rfl, by omega, hidI ⟨L6, G6.out⟩⟩, rfl, rfl, rfl, rfl, rfl, rfl⟩, by simp [intOf]; omega⟩
    · obtain rfl : j = 2 := by omega
      have c0 := cell_of_row _ (w.heap.size + 1) 0 _ _ _ L0
      have c1 := cell_of_row _ (w.heap.size + 1) 1 _ _ _ L0
      have c2 := cell_of_row _ (w.heap.size + 1) 2 _ _ _ L0
      go_wp2_with (refine wp_storeM rfl _ _ rfl w.heap.size ⟨0, 0, 0⟩ ⟨0, 0, 0⟩ rfl rfl MR.out ?_; intro w7 r7 f7)
      exact bodyPost_ret (resM2 Tryz.results35 _ _ _ ⟨0, 0, 0⟩ rfl r7) rfl ⟨rfl, FW.out.then f7 (fun i hi e => by simp at e; omega)⟩
set_option maxRecDepth 100000 in
/-- No book of what no master stands on. -/
theorem new_no (w : World) (d : Option Addr) (l p : Option Addr) (k : Int) (hk : k ≠ 0) (hr : Calls Tryz.prog 35 #[.pointer d] w fun e w' => e = .returned (.tuple #[.agg (mV ⟨0, 0, 0⟩), .int .i64 k]) ∧ Fr [] w w') :
    Calls Tryz.prog 39 #[.pointer d, .pointer l, .pointer p] w fun e w' => e = .returned (.pointer none) ∧ Fr [] w w' := by
  have HR := hidI hr
  clear hr
  go_enter Tryz.func39, Tryz.ntmps39
  go_wp2_with fail
  refine HR.out.mono ?_
  unfold mV
  rintro e w2 ⟨rfl, f2⟩
  have f3 : Fr [] w2 (w2.alloc (.cells #[.int .i64 0, .int .i64 0, .int .i64 0] 72)) := (Fr.refl [] w2).alloc _
  go_wp2_with fail
  go_ret
  exact ⟨rfl, f2.trans f3⟩
end Go.Proofs.YtopaeomjndblkaaGreat

