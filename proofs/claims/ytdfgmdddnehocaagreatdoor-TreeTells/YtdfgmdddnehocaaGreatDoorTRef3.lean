/-
  The document's own answer: does a node fit?
-/
import Derived.Test.YtdfgmdddnehocaaGreatDoorXRefA
set_option linter.unusedVariables false
set_option linter.unusedSimpArgs false
namespace Go.Proofs.YtdfgmdddnehocaaGreatDoor
open Go.RowKit Go.Maps Go.Lib

set_option maxHeartbeats 8000000 in
set_option maxRecDepth 100000 in
theorem fits_1 (w : World) (b off c n : Nat) (i : Nat) (hi : i < n) (hl : n ≤ 16384) (NM VL : ByteArray) (P : Int) (U : Nat) (TB : Bool) 
    (c0 : w.cell? ⟨b, off + i * 4, none⟩ = some (.int .u8 ((1 : Nat) : Int))) (c1 : w.cell? ⟨b, off + i * 4 + 1, none⟩ = some (.string NM)) (c2 : w.cell? ⟨b, off + i * 4 + 2, none⟩ = some (.string VL)) (c3 : w.cell? ⟨b, off + i * 4 + 3, none⟩ = some (.int .i64 P))
    (cU : Hid (∀ w', Fr [] w w' → Calls Tryz.prog 71 #[.slice (some ⟨b, off, none⟩) n c, .int .i64 (i : Int)] w' fun e w'' => e = .returned (.int .u8 (U : Int)) ∧ w'' = w'))
    (cT : Hid (∀ w', Calls Tryz.prog 72 #[.string VL] w' fun e w'' => e = .returned (.bool TB) ∧ w'' = w'))
    : Calls Tryz.prog 61 #[.slice (some ⟨b, off, none⟩) n c, .int .i64 (i : Int)] w fun e w' => e = .returned (.bool (TB && (!(decide ((65536 : Int) < (VL.size : Int))) && (((i : Int) == 0) && (NM.toList.isEmpty && VL.toList.isEmpty))))) ∧ Fr [] w w' := by
  have hi' : (i : Int) < (n : Int) := by omega
  have hi0 : (0 : Int) ≤ (i : Int) := by omega
  obtain ⟨R, HR⟩ : ∃ R, Hid ((TB && (!(decide ((65536 : Int) < (VL.size : Int))) && (((i : Int) == 0) && (NM.toList.isEmpty && VL.toList.isEmpty)))) = R) := ⟨_, rfl⟩
  rw [HR.out]
  go_enter Tryz.func61, Tryz.ntmps61
  go_wp2_with (first
    | (refine wp_alloc 41 rfl rfl _ zeroN _ rfl ?_; intro wa ga hga hca fa)
    | (refine wp_storeC 41 rfl _ _ rfl ga _ (ndC 1 NM VL P) rfl rfl hca infoN rfl (ndC_one _ _ _ _) ?_; intro wb hcb fb; have frb : Fr [] w wb := (fa).then fb (fun j hj hm => (by simp at hm; omega)); have n0 : wb.cell? ⟨ga, 0, none⟩ = some (.int .u8 ((1 : Nat) : Int)) := hcb.cell 0; have n1 : wb.cell? ⟨ga, 1, none⟩ = some (.string NM) := hcb.cell 1; have n2 : wb.cell? ⟨ga, 2, none⟩ = some (.string VL) := hcb.cell 2; have n3 : wb.cell? ⟨ga, 3, none⟩ = some (.int .i64 P) := hcb.cell 3)
    | (go_at_call 71; refine (cU.out _ (by first | exact Fr.refl _ _ | assumption)).mono ?_; rintro e w5 ⟨rfl, h5⟩; have h5' := h5.symm; subst h5')
    | (go_at_call 72; refine (cT.out _).mono ?_; rintro e w5 ⟨rfl, h5⟩; have h5' := h5.symm; subst h5')
    | go_in)
  all_goals
    have hR := HR.out
    clear HR
    go_ret
    refine ⟨congrArg (fun b => Ending.returned (Value.bool b)) ?_, by first | exact frb | assumption⟩
    rw [← hR]
    simp [*]

set_option maxHeartbeats 8000000 in
set_option maxRecDepth 100000 in
theorem fits_2 (w : World) (b off c n : Nat) (i : Nat) (hi : i < n) (hl : n ≤ 16384) (NM VL : ByteArray) (P : Int) (U : Nat) (TB : Bool) (NB : Bool)
    (c0 : w.cell? ⟨b, off + i * 4, none⟩ = some (.int .u8 ((2 : Nat) : Int))) (c1 : w.cell? ⟨b, off + i * 4 + 1, none⟩ = some (.string NM)) (c2 : w.cell? ⟨b, off + i * 4 + 2, none⟩ = some (.string VL)) (c3 : w.cell? ⟨b, off + i * 4 + 3, none⟩ = some (.int .i64 P))
    (cU : Hid (∀ w', Fr [] w w' → Calls Tryz.prog 71 #[.slice (some ⟨b, off, none⟩) n c, .int .i64 (i : Int)] w' fun e w'' => e = .returned (.int .u8 (U : Int)) ∧ w'' = w'))
    (cT : Hid (∀ w', Calls Tryz.prog 72 #[.string VL] w' fun e w'' => e = .returned (.bool TB) ∧ w'' = w'))
    (cN : Hid (∀ w', Calls Tryz.prog 73 #[.string NM] w' fun e w'' => e = .returned (.bool NB) ∧ w'' = w'))
    : Calls Tryz.prog 61 #[.slice (some ⟨b, off, none⟩) n c, .int .i64 (i : Int)] w fun e w' => e = .returned (.bool (TB && (!(decide ((65536 : Int) < (VL.size : Int))) && ((((U : Int) == 0) || (((U : Int) == 2) || ((U : Int) == 1))) && (NB && VL.toList.isEmpty))))) ∧ Fr [] w w' := by
  have hi' : (i : Int) < (n : Int) := by omega
  have hi0 : (0 : Int) ≤ (i : Int) := by omega
  obtain ⟨R, HR⟩ : ∃ R, Hid ((TB && (!(decide ((65536 : Int) < (VL.size : Int))) && ((((U : Int) == 0) || (((U : Int) == 2) || ((U : Int) == 1))) && (NB && VL.toList.isEmpty)))) = R) := ⟨_, rfl⟩
  rw [HR.out]
  go_enter Tryz.func61, Tryz.ntmps61
  go_wp2_with (first
    | (refine wp_alloc 41 rfl rfl _ zeroN _ rfl ?_; intro wa ga hga hca fa)
    | (refine wp_storeC 41 rfl _ _ rfl ga _ (ndC 2 NM VL P) rfl rfl hca infoN rfl (ndC_one _ _ _ _) ?_; intro wb hcb fb; have frb : Fr [] w wb := (fa).then fb (fun j hj hm => (by simp at hm; omega)); have n0 : wb.cell? ⟨ga, 0, none⟩ = some (.int .u8 ((2 : Nat) : Int)) := hcb.cell 0; have n1 : wb.cell? ⟨ga, 1, none⟩ = some (.string NM) := hcb.cell 1; have n2 : wb.cell? ⟨ga, 2, none⟩ = some (.string VL) := hcb.cell 2; have n3 : wb.cell? ⟨ga, 3, none⟩ = some (.int .i64 P) := hcb.cell 3)
    | (go_at_call 71; refine (cU.out _ (by first | exact Fr.refl _ _ | assumption)).mono ?_; rintro e w5 ⟨rfl, h5⟩; have h5' := h5.symm; subst h5')
    | (go_at_call 72; refine (cT.out _).mono ?_; rintro e w5 ⟨rfl, h5⟩; have h5' := h5.symm; subst h5')
    | (go_at_call 73; refine (cN.out _).mono ?_; rintro e w5 ⟨rfl, h5⟩; have h5' := h5.symm; subst h5')
    | go_in)
  all_goals
    have hR := HR.out
    clear HR
    go_ret
    refine ⟨congrArg (fun b => Ending.returned (Value.bool b)) ?_, by first | exact frb | assumption⟩
    rw [← hR]
    simp [*]

set_option maxHeartbeats 8000000 in
set_option maxRecDepth 100000 in
theorem fits_3 (w : World) (b off c n : Nat) (i : Nat) (hi : i < n) (hl : n ≤ 16384) (NM VL : ByteArray) (P : Int) (U : Nat) (TB : Bool) (AB : Bool)
    (c0 : w.cell? ⟨b, off + i * 4, none⟩ = some (.int .u8 ((3 : Nat) : Int))) (c1 : w.cell? ⟨b, off + i * 4 + 1, none⟩ = some (.string NM)) (c2 : w.cell? ⟨b, off + i * 4 + 2, none⟩ = some (.string VL)) (c3 : w.cell? ⟨b, off + i * 4 + 3, none⟩ = some (.int .i64 P))
    (cU : Hid (∀ w', Fr [] w w' → Calls Tryz.prog 71 #[.slice (some ⟨b, off, none⟩) n c, .int .i64 (i : Int)] w' fun e w'' => e = .returned (.int .u8 (U : Int)) ∧ w'' = w'))
    (cT : Hid (∀ w', Calls Tryz.prog 72 #[.string VL] w' fun e w'' => e = .returned (.bool TB) ∧ w'' = w'))
    (cA : Hid (∀ w', Fr [] w w' → Calls Tryz.prog 74 #[.slice (some ⟨b, off, none⟩) n c, .int .i64 (i : Int)] w' fun e w'' => e = .returned (.bool AB) ∧ Fr [] w' w''))
    : Calls Tryz.prog 61 #[.slice (some ⟨b, off, none⟩) n c, .int .i64 (i : Int)] w fun e w' => e = .returned (.bool (TB && (!(decide ((65536 : Int) < (VL.size : Int))) && (AB)))) ∧ Fr [] w w' := by
  have hi' : (i : Int) < (n : Int) := by omega
  have hi0 : (0 : Int) ≤ (i : Int) := by omega
  obtain ⟨R, HR⟩ : ∃ R, Hid ((TB && (!(decide ((65536 : Int) < (VL.size : Int))) && (AB))) = R) := ⟨_, rfl⟩
  rw [HR.out]
  go_enter Tryz.func61, Tryz.ntmps61
  go_wp2_with (first
    | (refine wp_alloc 41 rfl rfl _ zeroN _ rfl ?_; intro wa ga hga hca fa)
    | (refine wp_storeC 41 rfl _ _ rfl ga _ (ndC 3 NM VL P) rfl rfl hca infoN rfl (ndC_one _ _ _ _) ?_; intro wb hcb fb; have frb : Fr [] w wb := (fa).then fb (fun j hj hm => (by simp at hm; omega)); have n0 : wb.cell? ⟨ga, 0, none⟩ = some (.int .u8 ((3 : Nat) : Int)) := hcb.cell 0; have n1 : wb.cell? ⟨ga, 1, none⟩ = some (.string NM) := hcb.cell 1; have n2 : wb.cell? ⟨ga, 2, none⟩ = some (.string VL) := hcb.cell 2; have n3 : wb.cell? ⟨ga, 3, none⟩ = some (.int .i64 P) := hcb.cell 3)
    | (go_at_call 71; refine (cU.out _ (by first | exact Fr.refl _ _ | assumption)).mono ?_; rintro e w5 ⟨rfl, h5⟩; have h5' := h5.symm; subst h5')
    | (go_at_call 72; refine (cT.out _).mono ?_; rintro e w5 ⟨rfl, h5⟩; have h5' := h5.symm; subst h5')
    | (go_at_call 74; refine (cA.out _ (by assumption)).mono ?_; rintro e w6 ⟨rfl, f6⟩; have frc := frb.trans f6)
    | go_in)
  all_goals
    have hR := HR.out
    clear HR
    go_ret
    refine ⟨congrArg (fun b => Ending.returned (Value.bool b)) ?_, by first | exact frb | assumption⟩
    rw [← hR]
    simp [*]

set_option maxHeartbeats 8000000 in
set_option maxRecDepth 100000 in
theorem fits_0 (w : World) (b off c n : Nat) (i : Nat) (hi : i < n) (hl : n ≤ 16384) (NM VL : ByteArray) (P : Int) (U : Nat) (TB : Bool) (K : Nat) (k1 : ((K : Int) == 1) = false) (k2 : ((K : Int) == 2) = false) (k3 : ((K : Int) == 3) = false) (k4 : ((K : Int) == 4) = false) (k5 : ((K : Int) == 5) = false) (k6 : ((K : Int) == 6) = false)
    (c0 : w.cell? ⟨b, off + i * 4, none⟩ = some (.int .u8 ((K : Nat) : Int))) (c1 : w.cell? ⟨b, off + i * 4 + 1, none⟩ = some (.string NM)) (c2 : w.cell? ⟨b, off + i * 4 + 2, none⟩ = some (.string VL)) (c3 : w.cell? ⟨b, off + i * 4 + 3, none⟩ = some (.int .i64 P))
    (cU : Hid (∀ w', Fr [] w w' → Calls Tryz.prog 71 #[.slice (some ⟨b, off, none⟩) n c, .int .i64 (i : Int)] w' fun e w'' => e = .returned (.int .u8 (U : Int)) ∧ w'' = w'))
    (cT : Hid (∀ w', Calls Tryz.prog 72 #[.string VL] w' fun e w'' => e = .returned (.bool TB) ∧ w'' = w'))
    : Calls Tryz.prog 61 #[.slice (some ⟨b, off, none⟩) n c, .int .i64 (i : Int)] w fun e w' => e = .returned (.bool (TB && (!(decide ((65536 : Int) < (VL.size : Int))) && (false)))) ∧ Fr [] w w' := by
  have hi' : (i : Int) < (n : Int) := by omega
  have hi0 : (0 : Int) ≤ (i : Int) := by omega
  obtain ⟨R, HR⟩ : ∃ R, Hid ((TB && (!(decide ((65536 : Int) < (VL.size : Int))) && (false))) = R) := ⟨_, rfl⟩
  rw [HR.out]
  go_enter Tryz.func61, Tryz.ntmps61
  go_wp2_with (first
    | (refine wp_alloc 41 rfl rfl _ zeroN _ rfl ?_; intro wa ga hga hca fa)
    | (refine wp_storeC 41 rfl _ _ rfl ga _ (ndC K NM VL P) rfl rfl hca infoN rfl (ndC_one _ _ _ _) ?_; intro wb hcb fb; have frb : Fr [] w wb := (fa).then fb (fun j hj hm => (by simp at hm; omega)); have n0 : wb.cell? ⟨ga, 0, none⟩ = some (.int .u8 ((K : Nat) : Int)) := hcb.cell 0; have n1 : wb.cell? ⟨ga, 1, none⟩ = some (.string NM) := hcb.cell 1; have n2 : wb.cell? ⟨ga, 2, none⟩ = some (.string VL) := hcb.cell 2; have n3 : wb.cell? ⟨ga, 3, none⟩ = some (.int .i64 P) := hcb.cell 3)
    | (go_at_call 71; refine (cU.out _ (by first | exact Fr.refl _ _ | assumption)).mono ?_; rintro e w5 ⟨rfl, h5⟩; have h5' := h5.symm; subst h5')
    | (go_at_call 72; refine (cT.out _).mono ?_; rintro e w5 ⟨rfl, h5⟩; have h5' := h5.symm; subst h5')
    | go_in)
  all_goals
    have hR := HR.out
    clear HR
    go_ret
    refine ⟨congrArg (fun b => Ending.returned (Value.bool b)) ?_, by first | exact frb | assumption⟩
    rw [← hR]
    simp [*]

set_option maxHeartbeats 8000000 in
set_option maxRecDepth 100000 in
theorem fits_noT (w : World) (b off c n : Nat) (i : Nat) (hi : i < n) (hl : n ≤ 16384) (NM VL : ByteArray) (P : Int) (U : Nat) (K : Nat)
    (c0 : w.cell? ⟨b, off + i * 4, none⟩ = some (.int .u8 ((K : Nat) : Int))) (c1 : w.cell? ⟨b, off + i * 4 + 1, none⟩ = some (.string NM)) (c2 : w.cell? ⟨b, off + i * 4 + 2, none⟩ = some (.string VL)) (c3 : w.cell? ⟨b, off + i * 4 + 3, none⟩ = some (.int .i64 P))
    (cU : Hid (∀ w', Fr [] w w' → Calls Tryz.prog 71 #[.slice (some ⟨b, off, none⟩) n c, .int .i64 (i : Int)] w' fun e w'' => e = .returned (.int .u8 (U : Int)) ∧ w'' = w'))
    (cT : Hid (∀ w', Calls Tryz.prog 72 #[.string VL] w' fun e w'' => e = .returned (.bool false) ∧ w'' = w'))
    : Calls Tryz.prog 61 #[.slice (some ⟨b, off, none⟩) n c, .int .i64 (i : Int)] w fun e w' => e = .returned (.bool (false)) ∧ Fr [] w w' := by
  have hi' : (i : Int) < (n : Int) := by omega
  have hi0 : (0 : Int) ≤ (i : Int) := by omega
  go_enter Tryz.func61, Tryz.ntmps61
  go_wp2_with (first
      | (refine wp_alloc 41 rfl rfl _ zeroN _ rfl ?_; intro wa ga hga hca fa)
      | (refine wp_storeC 41 rfl _ _ rfl ga _ (ndC K NM VL P) rfl rfl hca infoN rfl (ndC_one _ _ _ _) ?_; intro wb hcb fb; have frb : Fr [] w wb := (fa).then fb (fun j hj hm => (by simp at hm; omega)); have n0 : wb.cell? ⟨ga, 0, none⟩ = some (.int .u8 ((K : Nat) : Int)) := hcb.cell 0; have n1 : wb.cell? ⟨ga, 1, none⟩ = some (.string NM) := hcb.cell 1; have n2 : wb.cell? ⟨ga, 2, none⟩ = some (.string VL) := hcb.cell 2; have n3 : wb.cell? ⟨ga, 3, none⟩ = some (.int .i64 P) := hcb.cell 3)
      | (go_at_call 71; refine (cU.out _ (by first | exact Fr.refl _ _ | assumption)).mono ?_; rintro e w5 ⟨rfl, h5⟩; have h5' := h5.symm; subst h5')
      | (go_at_call 72; refine (cT.out _).mono ?_; rintro e w5 ⟨rfl, h5⟩; have h5' := h5.symm; subst h5'))
  all_goals
    go_ret
    exact ⟨rfl, frb⟩
set_option maxHeartbeats 8000000 in
set_option maxRecDepth 100000 in
theorem fits_big (w : World) (b off c n : Nat) (i : Nat) (hi : i < n) (hl : n ≤ 16384) (NM VL : ByteArray) (P : Int) (U : Nat) (K : Nat) (hSz : (65536 : Int) < (VL.size : Int))
    (c0 : w.cell? ⟨b, off + i * 4, none⟩ = some (.int .u8 ((K : Nat) : Int))) (c1 : w.cell? ⟨b, off + i * 4 + 1, none⟩ = some (.string NM)) (c2 : w.cell? ⟨b, off + i * 4 + 2, none⟩ = some (.string VL)) (c3 : w.cell? ⟨b, off + i * 4 + 3, none⟩ = some (.int .i64 P))
    (cU : Hid (∀ w', Fr [] w w' → Calls Tryz.prog 71 #[.slice (some ⟨b, off, none⟩) n c, .int .i64 (i : Int)] w' fun e w'' => e = .returned (.int .u8 (U : Int)) ∧ w'' = w'))
    (cT : Hid (∀ w', Calls Tryz.prog 72 #[.string VL] w' fun e w'' => e = .returned (.bool true) ∧ w'' = w'))
    : Calls Tryz.prog 61 #[.slice (some ⟨b, off, none⟩) n c, .int .i64 (i : Int)] w fun e w' => e = .returned (.bool (false)) ∧ Fr [] w w' := by
  have hi' : (i : Int) < (n : Int) := by omega
  have hi0 : (0 : Int) ≤ (i : Int) := by omega
  go_enter Tryz.func61, Tryz.ntmps61
  go_wp2_with (first
      | (refine wp_alloc 41 rfl rfl _ zeroN _ rfl ?_; intro wa ga hga hca fa)
      | (refine wp_storeC 41 rfl _ _ rfl ga _ (ndC K NM VL P) rfl rfl hca infoN rfl (ndC_one _ _ _ _) ?_; intro wb hcb fb; have frb : Fr [] w wb := (fa).then fb (fun j hj hm => (by simp at hm; omega)); have n0 : wb.cell? ⟨ga, 0, none⟩ = some (.int .u8 ((K : Nat) : Int)) := hcb.cell 0; have n1 : wb.cell? ⟨ga, 1, none⟩ = some (.string NM) := hcb.cell 1; have n2 : wb.cell? ⟨ga, 2, none⟩ = some (.string VL) := hcb.cell 2; have n3 : wb.cell? ⟨ga, 3, none⟩ = some (.int .i64 P) := hcb.cell 3)
      | (go_at_call 71; refine (cU.out _ (by first | exact Fr.refl _ _ | assumption)).mono ?_; rintro e w5 ⟨rfl, h5⟩; have h5' := h5.symm; subst h5')
      | (go_at_call 72; refine (cT.out _).mono ?_; rintro e w5 ⟨rfl, h5⟩; have h5' := h5.symm; subst h5'))
  all_goals
    go_ret
    exact ⟨rfl, frb⟩
end Go.Proofs.YtdfgmdddnehocaaGreatDoor
