/-
  The document's own answer: does a node fit?
-/
import Derived.Test.YtdfgmdddnehocaaGreatDoorXRefA
set_option linter.unusedVariables false
set_option linter.unusedSimpArgs false
namespace Go.Proofs.YtdfgmdddnehocaaGreatDoor
open Go.RowKit Go.Maps Go.Lib

set_option maxHeartbeats 8000000 in
set_option maxRecDepth 100000 in
theorem fits_4a (w : World) (b off c n : Nat) (i : Nat) (hi : i < n) (hl : n ≤ 16384) (NM VL : ByteArray) (P : Int) (U : Nat) (s : Int) (hs : s < 0)
    (c0 : w.cell? ⟨b, off + i * 4, none⟩ = some (.int .u8 ((4 : Nat) : Int))) (c1 : w.cell? ⟨b, off + i * 4 + 1, none⟩ = some (.string NM)) (c2 : w.cell? ⟨b, off + i * 4 + 2, none⟩ = some (.string VL)) (c3 : w.cell? ⟨b, off + i * 4 + 3, none⟩ = some (.int .i64 P))
    (cU : Hid (∀ w', Fr [] w w' → Calls Tryz.prog 71 #[.slice (some ⟨b, off, none⟩) n c, .int .i64 (i : Int)] w' fun e w'' => e = .returned (.int .u8 (U : Int)) ∧ w'' = w'))
    (cT : Hid (∀ w', Calls Tryz.prog 72 #[.string VL] w' fun e w'' => e = .returned (.bool true) ∧ w'' = w'))
    (hSz : ¬ (65536 : Int) < (VL.size : Int))
    (cS : Hid (∀ w', Fr [] w w' → Calls Tryz.prog 75 #[.slice (some ⟨b, off, none⟩) n c, .int .i64 (i : Int)] w' fun e w'' => e = .returned (.int .i64 s) ∧ Fr [] w' w''))
    : Calls Tryz.prog 61 #[.slice (some ⟨b, off, none⟩) n c, .int .i64 (i : Int)] w fun e w' => e = .returned (.bool ((((U : Int) == 0) || ((U : Int) == 2)) && (NM.toList.isEmpty && (!VL.toList.isEmpty && true)))) ∧ Fr [] w w' := by
  have hi' : (i : Int) < (n : Int) := by omega
  have hi0 : (0 : Int) ≤ (i : Int) := by omega
  by_cases hU : U = 0 ∨ U = 2
  · rcases hU with rfl | rfl
    all_goals
      cases hNE : NM.toList.isEmpty with
      | false =>
        rw [show (false && (!VL.toList.isEmpty && true)) = false from rfl, Bool.and_false]
        go_enter Tryz.func61, Tryz.ntmps61
        go_wp2_with (first
            | (refine wp_alloc 41 rfl rfl _ zeroN _ rfl ?_; intro wa ga hga hca fa)
            | (refine wp_storeC 41 rfl _ _ rfl ga _ (ndC 4 NM VL P) rfl rfl hca infoN rfl (ndC_one _ _ _ _) ?_; intro wb hcb fb; have frb : Fr [] w wb := (fa).then fb (fun j hj hm => (by simp at hm; omega)); have n0 : wb.cell? ⟨ga, 0, none⟩ = some (.int .u8 ((4 : Nat) : Int)) := hcb.cell 0; have n1 : wb.cell? ⟨ga, 1, none⟩ = some (.string NM) := hcb.cell 1; have n2 : wb.cell? ⟨ga, 2, none⟩ = some (.string VL) := hcb.cell 2; have n3 : wb.cell? ⟨ga, 3, none⟩ = some (.int .i64 P) := hcb.cell 3)
            | (go_at_call 71; refine (cU.out _ (by first | exact Fr.refl _ _ | assumption)).mono ?_; rintro e w5 ⟨rfl, h5⟩; have h5' := h5.symm; subst h5'))
        refine (cT.out _).mono ?_
        rintro e w5 ⟨rfl, h5⟩
        have h5' := h5.symm
        subst h5'
        go_wp2_with fail
        refine (cS.out _ (by assumption)).mono ?_
        rintro e w6 ⟨rfl, f6⟩
        have frc := frb.trans f6
        have m0 : w6.cell? ⟨ga, 0, none⟩ = some (.int .u8 ((4 : Nat) : Int)) := (hcb.kept f6 (by simp)).cell 0
        have m1 : w6.cell? ⟨ga, 1, none⟩ = some (.string NM) := (hcb.kept f6 (by simp)).cell 1
        have m2 : w6.cell? ⟨ga, 2, none⟩ = some (.string VL) := (hcb.kept f6 (by simp)).cell 2
        go_wp2_with fail
        all_goals
          go_ret
          exact ⟨rfl, frc⟩
      | true =>
        cases hVE : VL.toList.isEmpty with
        | true =>
          rw [show ((!true) && true) = false from rfl, Bool.and_false, Bool.and_false]
          go_enter Tryz.func61, Tryz.ntmps61
          go_wp2_with (first
              | (refine wp_alloc 41 rfl rfl _ zeroN _ rfl ?_; intro wa ga hga hca fa)
              | (refine wp_storeC 41 rfl _ _ rfl ga _ (ndC 4 NM VL P) rfl rfl hca infoN rfl (ndC_one _ _ _ _) ?_; intro wb hcb fb; have frb : Fr [] w wb := (fa).then fb (fun j hj hm => (by simp at hm; omega)); have n0 : wb.cell? ⟨ga, 0, none⟩ = some (.int .u8 ((4 : Nat) : Int)) := hcb.cell 0; have n1 : wb.cell? ⟨ga, 1, none⟩ = some (.string NM) := hcb.cell 1; have n2 : wb.cell? ⟨ga, 2, none⟩ = some (.string VL) := hcb.cell 2; have n3 : wb.cell? ⟨ga, 3, none⟩ = some (.int .i64 P) := hcb.cell 3)
              | (go_at_call 71; refine (cU.out _ (by first | exact Fr.refl _ _ | assumption)).mono ?_; rintro e w5 ⟨rfl, h5⟩; have h5' := h5.symm; subst h5'))
          refine (cT.out _).mono ?_
          rintro e w5 ⟨rfl, h5⟩
          have h5' := h5.symm
          subst h5'
          go_wp2_with fail
          refine (cS.out _ (by assumption)).mono ?_
          rintro e w6 ⟨rfl, f6⟩
          have frc := frb.trans f6
          have m0 : w6.cell? ⟨ga, 0, none⟩ = some (.int .u8 ((4 : Nat) : Int)) := (hcb.kept f6 (by simp)).cell 0
          have m1 : w6.cell? ⟨ga, 1, none⟩ = some (.string NM) := (hcb.kept f6 (by simp)).cell 1
          have m2 : w6.cell? ⟨ga, 2, none⟩ = some (.string VL) := (hcb.kept f6 (by simp)).cell 2
          go_wp2_with fail
          all_goals
            go_ret
            exact ⟨rfl, frc⟩
        | false =>
          go_enter Tryz.func61, Tryz.ntmps61
          go_wp2_with (first
              | (refine wp_alloc 41 rfl rfl _ zeroN _ rfl ?_; intro wa ga hga hca fa)
              | (refine wp_storeC 41 rfl _ _ rfl ga _ (ndC 4 NM VL P) rfl rfl hca infoN rfl (ndC_one _ _ _ _) ?_; intro wb hcb fb; have frb : Fr [] w wb := (fa).then fb (fun j hj hm => (by simp at hm; omega)); have n0 : wb.cell? ⟨ga, 0, none⟩ = some (.int .u8 ((4 : Nat) : Int)) := hcb.cell 0; have n1 : wb.cell? ⟨ga, 1, none⟩ = some (.string NM) := hcb.cell 1; have n2 : wb.cell? ⟨ga, 2, none⟩ = some (.string VL) := hcb.cell 2; have n3 : wb.cell? ⟨ga, 3, none⟩ = some (.int .i64 P) := hcb.cell 3)
              | (go_at_call 71; refine (cU.out _ (by first | exact Fr.refl _ _ | assumption)).mono ?_; rintro e w5 ⟨rfl, h5⟩; have h5' := h5.symm; subst h5'))
          refine (cT.out _).mono ?_
          rintro e w5 ⟨rfl, h5⟩
          have h5' := h5.symm
          subst h5'
          go_wp2_with fail
          refine (cS.out _ (by assumption)).mono ?_
          rintro e w6 ⟨rfl, f6⟩
          have frc := frb.trans f6
          have m0 : w6.cell? ⟨ga, 0, none⟩ = some (.int .u8 ((4 : Nat) : Int)) := (hcb.kept f6 (by simp)).cell 0
          have m1 : w6.cell? ⟨ga, 1, none⟩ = some (.string NM) := (hcb.kept f6 (by simp)).cell 1
          have m2 : w6.cell? ⟨ga, 2, none⟩ = some (.string VL) := (hcb.kept f6 (by simp)).cell 2
          go_wp2_with fail
          all_goals
            go_ret
            exact ⟨rfl, frc⟩
  · have u0 : ((U : Int) == 0) = false := by rw [beq_eq_false_iff_ne]; omega
    have u2 : ((U : Int) == 2) = false := by rw [beq_eq_false_iff_ne]; omega
    rw [u0, u2]
    rw [show (false || false) = false from rfl, Bool.false_and]
    go_enter Tryz.func61, Tryz.ntmps61
    go_wp2_with (first
        | (refine wp_alloc 41 rfl rfl _ zeroN _ rfl ?_; intro wa ga hga hca fa)
        | (refine wp_storeC 41 rfl _ _ rfl ga _ (ndC 4 NM VL P) rfl rfl hca infoN rfl (ndC_one _ _ _ _) ?_; intro wb hcb fb; have frb : Fr [] w wb := (fa).then fb (fun j hj hm => (by simp at hm; omega)); have n0 : wb.cell? ⟨ga, 0, none⟩ = some (.int .u8 ((4 : Nat) : Int)) := hcb.cell 0; have n1 : wb.cell? ⟨ga, 1, none⟩ = some (.string NM) := hcb.cell 1; have n2 : wb.cell? ⟨ga, 2, none⟩ = some (.string VL) := hcb.cell 2; have n3 : wb.cell? ⟨ga, 3, none⟩ = some (.int .i64 P) := hcb.cell 3)
        | (go_at_call 71; refine (cU.out _ (by first | exact Fr.refl _ _ | assumption)).mono ?_; rintro e w5 ⟨rfl, h5⟩; have h5' := h5.symm; subst h5'))
    refine (cT.out _).mono ?_
    rintro e w5 ⟨rfl, h5⟩
    have h5' := h5.symm
    subst h5'
    go_wp2_with fail
    refine (cS.out _ (by assumption)).mono ?_
    rintro e w6 ⟨rfl, f6⟩
    have frc := frb.trans f6
    have m0 : w6.cell? ⟨ga, 0, none⟩ = some (.int .u8 ((4 : Nat) : Int)) := (hcb.kept f6 (by simp)).cell 0
    have m1 : w6.cell? ⟨ga, 1, none⟩ = some (.string NM) := (hcb.kept f6 (by simp)).cell 1
    have m2 : w6.cell? ⟨ga, 2, none⟩ = some (.string VL) := (hcb.kept f6 (by simp)).cell 2
    go_wp2_with fail
    all_goals
      go_ret
      exact ⟨rfl, frc⟩
set_option maxHeartbeats 8000000 in
set_option maxRecDepth 100000 in
theorem fits_4b (w : World) (b off c n : Nat) (i : Nat) (hi : i < n) (hl : n ≤ 16384) (NM VL : ByteArray) (P : Int) (U : Nat) (m KS : Nat) (hm : m < n)
    (c0 : w.cell? ⟨b, off + i * 4, none⟩ = some (.int .u8 ((4 : Nat) : Int))) (c1 : w.cell? ⟨b, off + i * 4 + 1, none⟩ = some (.string NM)) (c2 : w.cell? ⟨b, off + i * 4 + 2, none⟩ = some (.string VL)) (c3 : w.cell? ⟨b, off + i * 4 + 3, none⟩ = some (.int .i64 P))
    (cU : Hid (∀ w', Fr [] w w' → Calls Tryz.prog 71 #[.slice (some ⟨b, off, none⟩) n c, .int .i64 (i : Int)] w' fun e w'' => e = .returned (.int .u8 (U : Int)) ∧ w'' = w'))
    (cT : Hid (∀ w', Calls Tryz.prog 72 #[.string VL] w' fun e w'' => e = .returned (.bool true) ∧ w'' = w'))
    (hSz : ¬ (65536 : Int) < (VL.size : Int))
    (cS : Hid (∀ w', Fr [] w w' → Calls Tryz.prog 75 #[.slice (some ⟨b, off, none⟩) n c, .int .i64 (i : Int)] w' fun e w'' => e = .returned (.int .i64 (m : Int)) ∧ Fr [] w' w''))
    (HS : Hid (∀ w', Fr [] w w' → w'.cell? ⟨b, off + m * 4, none⟩ = some (.int .u8 (KS : Int))))
    : Calls Tryz.prog 61 #[.slice (some ⟨b, off, none⟩) n c, .int .i64 (i : Int)] w fun e w' => e = .returned (.bool ((((U : Int) == 0) || ((U : Int) == 2)) && (NM.toList.isEmpty && (!VL.toList.isEmpty && ((KS : Int) != 4))))) ∧ Fr [] w w' := by
  have hi' : (i : Int) < (n : Int) := by omega
  have hi0 : (0 : Int) ≤ (i : Int) := by omega
  by_cases hU : U = 0 ∨ U = 2
  · rcases hU with rfl | rfl
    all_goals
      cases hNE : NM.toList.isEmpty with
      | false =>
        rw [show (false && (!VL.toList.isEmpty && ((KS : Int) != 4))) = false from rfl, Bool.and_false]
        go_enter Tryz.func61, Tryz.ntmps61
        go_wp2_with (first
            | (refine wp_alloc 41 rfl rfl _ zeroN _ rfl ?_; intro wa ga hga hca fa)
            | (refine wp_storeC 41 rfl _ _ rfl ga _ (ndC 4 NM VL P) rfl rfl hca infoN rfl (ndC_one _ _ _ _) ?_; intro wb hcb fb; have frb : Fr [] w wb := (fa).then fb (fun j hj hm => (by simp at hm; omega)); have n0 : wb.cell? ⟨ga, 0, none⟩ = some (.int .u8 ((4 : Nat) : Int)) := hcb.cell 0; have n1 : wb.cell? ⟨ga, 1, none⟩ = some (.string NM) := hcb.cell 1; have n2 : wb.cell? ⟨ga, 2, none⟩ = some (.string VL) := hcb.cell 2; have n3 : wb.cell? ⟨ga, 3, none⟩ = some (.int .i64 P) := hcb.cell 3)
            | (go_at_call 71; refine (cU.out _ (by first | exact Fr.refl _ _ | assumption)).mono ?_; rintro e w5 ⟨rfl, h5⟩; have h5' := h5.symm; subst h5'))
        refine (cT.out _).mono ?_
        rintro e w5 ⟨rfl, h5⟩
        have h5' := h5.symm
        subst h5'
        go_wp2_with fail
        refine (cS.out _ (by assumption)).mono ?_
        rintro e w6 ⟨rfl, f6⟩
        have frc := frb.trans f6
        have m0 : w6.cell? ⟨ga, 0, none⟩ = some (.int .u8 ((4 : Nat) : Int)) := (hcb.kept f6 (by simp)).cell 0
        have m1 : w6.cell? ⟨ga, 1, none⟩ = some (.string NM) := (hcb.kept f6 (by simp)).cell 1
        have m2 : w6.cell? ⟨ga, 2, none⟩ = some (.string VL) := (hcb.kept f6 (by simp)).cell 2
        have q0 := HS.out _ frc
        go_wp2_with fail
        all_goals
          go_ret
          exact ⟨rfl, frc⟩
      | true =>
        cases hVE : VL.toList.isEmpty with
        | true =>
          rw [show ((!true) && ((KS : Int) != 4)) = false from rfl, Bool.and_false, Bool.and_false]
          go_enter Tryz.func61, Tryz.ntmps61
          go_wp2_with (first
              | (refine wp_alloc 41 rfl rfl _ zeroN _ rfl ?_; intro wa ga hga hca fa)
              | (refine wp_storeC 41 rfl _ _ rfl ga _ (ndC 4 NM VL P) rfl rfl hca infoN rfl (ndC_one _ _ _ _) ?_; intro wb hcb fb; have frb : Fr [] w wb := (fa).then fb (fun j hj hm => (by simp at hm; omega)); have n0 : wb.cell? ⟨ga, 0, none⟩ = some (.int .u8 ((4 : Nat) : Int)) := hcb.cell 0; have n1 : wb.cell? ⟨ga, 1, none⟩ = some (.string NM) := hcb.cell 1; have n2 : wb.cell? ⟨ga, 2, none⟩ = some (.string VL) := hcb.cell 2; have n3 : wb.cell? ⟨ga, 3, none⟩ = some (.int .i64 P) := hcb.cell 3)
              | (go_at_call 71; refine (cU.out _ (by first | exact Fr.refl _ _ | assumption)).mono ?_; rintro e w5 ⟨rfl, h5⟩; have h5' := h5.symm; subst h5'))
          refine (cT.out _).mono ?_
          rintro e w5 ⟨rfl, h5⟩
          have h5' := h5.symm
          subst h5'
          go_wp2_with fail
          refine (cS.out _ (by assumption)).mono ?_
          rintro e w6 ⟨rfl, f6⟩
          have frc := frb.trans f6
          have m0 : w6.cell? ⟨ga, 0, none⟩ = some (.int .u8 ((4 : Nat) : Int)) := (hcb.kept f6 (by simp)).cell 0
          have m1 : w6.cell? ⟨ga, 1, none⟩ = some (.string NM) := (hcb.kept f6 (by simp)).cell 1
          have m2 : w6.cell? ⟨ga, 2, none⟩ = some (.string VL) := (hcb.kept f6 (by simp)).cell 2
          have q0 := HS.out _ frc
          go_wp2_with fail
          all_goals
            go_ret
            exact ⟨rfl, frc⟩
        | false =>
          have hm' : (m : Int) < (n : Int) := by omega
          have hm0 : (0 : Int) ≤ (m : Int) := by omega
          have hmn : ¬ (m : Int) < 0 := by omega
          by_cases hX4 : KS = 4
          · subst hX4
            go_enter Tryz.func61, Tryz.ntmps61
            go_wp2_with (first
                | (refine wp_alloc 41 rfl rfl _ zeroN _ rfl ?_; intro wa ga hga hca fa)
                | (refine wp_storeC 41 rfl _ _ rfl ga _ (ndC 4 NM VL P) rfl rfl hca infoN rfl (ndC_one _ _ _ _) ?_; intro wb hcb fb; have frb : Fr [] w wb := (fa).then fb (fun j hj hm => (by simp at hm; omega)); have n0 : wb.cell? ⟨ga, 0, none⟩ = some (.int .u8 ((4 : Nat) : Int)) := hcb.cell 0; have n1 : wb.cell? ⟨ga, 1, none⟩ = some (.string NM) := hcb.cell 1; have n2 : wb.cell? ⟨ga, 2, none⟩ = some (.string VL) := hcb.cell 2; have n3 : wb.cell? ⟨ga, 3, none⟩ = some (.int .i64 P) := hcb.cell 3)
                | (go_at_call 71; refine (cU.out _ (by first | exact Fr.refl _ _ | assumption)).mono ?_; rintro e w5 ⟨rfl, h5⟩; have h5' := h5.symm; subst h5'))
            refine (cT.out _).mono ?_
            rintro e w5 ⟨rfl, h5⟩
            have h5' := h5.symm
            subst h5'
            go_wp2_with fail
            refine (cS.out _ (by assumption)).mono ?_
            rintro e w6 ⟨rfl, f6⟩
            have frc := frb.trans f6
            have m0 : w6.cell? ⟨ga, 0, none⟩ = some (.int .u8 ((4 : Nat) : Int)) := (hcb.kept f6 (by simp)).cell 0
            have m1 : w6.cell? ⟨ga, 1, none⟩ = some (.string NM) := (hcb.kept f6 (by simp)).cell 1
            have m2 : w6.cell? ⟨ga, 2, none⟩ = some (.string VL) := (hcb.kept f6 (by simp)).cell 2
            have q0 := HS.out _ frc
            go_wp2_with fail
            all_goals
              go_ret
              exact ⟨rfl, frc⟩
          · have hX5 : ((KS : Int) != 4) = true := by rw [bne_iff_ne]; omega
            rw [hX5]
            go_enter Tryz.func61, Tryz.ntmps61
            go_wp2_with (first
                | (refine wp_alloc 41 rfl rfl _ zeroN _ rfl ?_; intro wa ga hga hca fa)
                | (refine wp_storeC 41 rfl _ _ rfl ga _ (ndC 4 NM VL P) rfl rfl hca infoN rfl (ndC_one _ _ _ _) ?_; intro wb hcb fb; have frb : Fr [] w wb := (fa).then fb (fun j hj hm => (by simp at hm; omega)); have n0 : wb.cell? ⟨ga, 0, none⟩ = some (.int .u8 ((4 : Nat) : Int)) := hcb.cell 0; have n1 : wb.cell? ⟨ga, 1, none⟩ = some (.string NM) := hcb.cell 1; have n2 : wb.cell? ⟨ga, 2, none⟩ = some (.string VL) := hcb.cell 2; have n3 : wb.cell? ⟨ga, 3, none⟩ = some (.int .i64 P) := hcb.cell 3)
                | (go_at_call 71; refine (cU.out _ (by first | exact Fr.refl _ _ | assumption)).mono ?_; rintro e w5 ⟨rfl, h5⟩; have h5' := h5.symm; subst h5'))
            refine (cT.out _).mono ?_
            rintro e w5 ⟨rfl, h5⟩
            have h5' := h5.symm
            subst h5'
            go_wp2_with fail
            refine (cS.out _ (by assumption)).mono ?_
            rintro e w6 ⟨rfl, f6⟩
            have frc := frb.trans f6
            have m0 : w6.cell? ⟨ga, 0, none⟩ = some (.int .u8 ((4 : Nat) : Int)) := (hcb.kept f6 (by simp)).cell 0
            have m1 : w6.cell? ⟨ga, 1, none⟩ = some (.string NM) := (hcb.kept f6 (by simp)).cell 1
            have m2 : w6.cell? ⟨ga, 2, none⟩ = some (.string VL) := (hcb.kept f6 (by simp)).cell 2
            have q0 := HS.out _ frc
            go_wp2_with fail
            all_goals
              go_ret
              exact ⟨rfl, frc⟩
  · have u0 : ((U : Int) == 0) = false := by rw [beq_eq_false_iff_ne]; omega
    have u2 : ((U : Int) == 2) = false := by rw [beq_eq_false_iff_ne]; omega
    rw [u0, u2]
    rw [show (false || false) = false from rfl, Bool.false_and]
    go_enter Tryz.func61, Tryz.ntmps61
    go_wp2_with (first
        | (refine wp_alloc 41 rfl rfl _ zeroN _ rfl ?_; intro wa ga hga hca fa)
        | (refine wp_storeC 41 rfl _ _ rfl ga _ (ndC 4 NM VL P) rfl rfl hca infoN rfl (ndC_one _ _ _ _) ?_; intro wb hcb fb; have frb : Fr [] w wb := (fa).then fb (fun j hj hm => (by simp at hm; omega)); have n0 : wb.cell? ⟨ga, 0, none⟩ = some (.int .u8 ((4 : Nat) : Int)) := hcb.cell 0; have n1 : wb.cell? ⟨ga, 1, none⟩ = some (.string NM) := hcb.cell 1; have n2 : wb.cell? ⟨ga, 2, none⟩ = some (.string VL) := hcb.cell 2; have n3 : wb.cell? ⟨ga, 3, none⟩ = some (.int .i64 P) := hcb.cell 3)
        | (go_at_call 71; refine (cU.out _ (by first | exact Fr.refl _ _ | assumption)).mono ?_; rintro e w5 ⟨rfl, h5⟩; have h5' := h5.symm; subst h5'))
    refine (cT.out _).mono ?_
    rintro e w5 ⟨rfl, h5⟩
    have h5' := h5.symm
    subst h5'
    go_wp2_with fail
    refine (cS.out _ (by assumption)).mono ?_
    rintro e w6 ⟨rfl, f6⟩
    have frc := frb.trans f6
    have m0 : w6.cell? ⟨ga, 0, none⟩ = some (.int .u8 ((4 : Nat) : Int)) := (hcb.kept f6 (by simp)).cell 0
    have m1 : w6.cell? ⟨ga, 1, none⟩ = some (.string NM) := (hcb.kept f6 (by simp)).cell 1
    have m2 : w6.cell? ⟨ga, 2, none⟩ = some (.string VL) := (hcb.kept f6 (by simp)).cell 2
    have q0 := HS.out _ frc
    go_wp2_with fail
    all_goals
      go_ret
      exact ⟨rfl, frc⟩
end Go.Proofs.YtdfgmdddnehocaaGreatDoor
