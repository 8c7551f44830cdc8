/-
  The document's own answer: a node fits just if it does.
-/
import Derived.Test.YtjdcfaaoicnajaaDoorXRefA
import Derived.Test.YtjdcfaaoicnajaaDoorTOpen
set_option linter.unusedVariables false
set_option linter.unusedSimpArgs false
namespace Go.Proofs.YtjdcfaaoicnajaaDoor
open Go.RowKit Go.Maps Go.Lib

set_option maxHeartbeats 8000000 in
set_option maxRecDepth 100000 in
theorem fits_4a (w : World) (b off c n : Nat) (i : Nat) (hi : i < n) (hl : n ≤ 16384) (NM VL : ByteArray) (P : Int) (U : Nat) (s : Int) (hs : s < 0)
    (c0 : w.cell? ⟨b, off + i * 4, none⟩ = some (.int .u8 ((4 : Nat) : Int))) (c1 : w.cell? ⟨b, off + i * 4 + 1, none⟩ = some (.string NM)) (c2 : w.cell? ⟨b, off + i * 4 + 2, none⟩ = some (.string VL)) (c3 : w.cell? ⟨b, off + i * 4 + 3, none⟩ = some (.int .i64 P))
    (cU : Hid (∀ w', Fr [] w w' → Calls Tryd.prog 51 #[.slice (some ⟨b, off, none⟩) n c, .int .i64 (i : Int)] w' fun e w'' => e = .returned (.int .u8 (U : Int)) ∧ w'' = w'))
    (cT : Hid (∀ w', Calls Tryd.prog 52 #[.string VL] w' fun e w'' => e = .returned (.bool true) ∧ w'' = w'))
    (hSz : ¬ (65536 : Int) < (VL.size : Int))
    (cS : Hid (∀ w', Fr [] w w' → Calls Tryd.prog 55 #[.slice (some ⟨b, off, none⟩) n c, .int .i64 (i : Int)] w' fun e w'' => e = .returned (.int .i64 s) ∧ Fr [] w' w''))
    : Calls Tryd.prog 45 #[.slice (some ⟨b, off, none⟩) n c, .int .i64 (i : Int)] w fun e w' => e = .returned (.bool ((((U : Int) == 0) || ((U : Int) == 2)) && (NM.toList.isEmpty && (!VL.toList.isEmpty && true)))) ∧ Fr [] w w' := by
  have hi' : (i : Int) < (n : Int) := by omega
  have hi0 : (0 : Int) ≤ (i : Int) := by omega
  by_cases hU : U = 0 ∨ U = 2
  · rcases hU with rfl | rfl
    all_goals
      cases hNE : NM.toList.isEmpty with
      | false =>
        rw [show (false && (!VL.toList.isEmpty && true)) = false from rfl, Bool.and_false]
        go_enter Tryd.func45, Tryd.ntmps45
        go_wp2_with (first
            | (refine wp_alloc 37 rfl rfl _ zeroN _ rfl ?_; intro wa ga hga hca fa)
            | (refine wp_storeC 37 rfl _ _ rfl ga _ (ndC 4 NM VL P) rfl rfl hca infoN rfl (ndC_one _ _ _ _) ?_; intro wb hcb fb; have frb : Fr [] w wb := (fa).then fb (fun j hj hm => (by simp at hm; omega)); have n0 : wb.cell? ⟨ga, 0, none⟩ = some (.int .u8 ((4 : Nat) : Int)) := hcb.cell 0; have n1 : wb.cell? ⟨ga, 1, none⟩ = some (.string NM) := hcb.cell 1; have n2 : wb.cell? ⟨ga, 2, none⟩ = some (.string VL) := hcb.cell 2; have n3 : wb.cell? ⟨ga, 3, none⟩ = some (.int .i64 P) := hcb.cell 3)
            | (go_at_call 51; refine (cU.out _ (by first | exact Fr.refl _ _ | assumption)).mono ?_; rintro e w5 ⟨rfl, h5⟩; have h5' := h5.symm; subst h5'))
        refine (cT.out _).mono ?_
        rintro e w5 ⟨rfl, h5⟩
        have h5' := h5.symm
        subst h5'
        go_wp2_with fail
        refine (cS.out _ (by assumption)).mono ?_
        rintro e w6 ⟨rfl, f6⟩
        have frc := frb.trans f6
        have m0 : w6.cell? ⟨ga, 0, none⟩ = some (.int .u8 ((4 : Nat) : Int)) := (hcb.kept f6 (by simp)).cell 0
        have m1 : w6.cell? ⟨ga, 1, none⟩ = some (.string NM) := (hcb.kept f6 (by simp)).cell 1
        have m2 : w6.cell? ⟨ga, 2, none⟩ = some (.string VL) := (hcb.kept f6 (by simp)).cell 2
        go_wp2_with fail
        all_goals
          go_ret
          exact ⟨rfl, frc⟩
      | true =>
        cases hVE : VL.toList.isEmpty with
        | true =>
          rw [show ((!true) && true) = false from rfl, Bool.and_false, Bool.and_false]
          go_enter Tryd.func45, Tryd.ntmps45
          go_wp2_with (first
              | (refine wp_alloc 37 rfl rfl _ zeroN _ rfl ?_; intro wa ga hga hca fa)
              | (refine wp_storeC 37 rfl _ _ rfl ga _ (ndC 4 NM VL P) rfl rfl hca infoN rfl (ndC_one _ _ _ _) ?_; intro wb hcb fb; have frb : Fr [] w wb := (fa).then fb (fun j hj hm => (by simp at hm; omega)); have n0 : wb.cell? ⟨ga, 0, none⟩ = some (.int .u8 ((4 : Nat) : Int)) := hcb.cell 0; have n1 : wb.cell? ⟨ga, 1, none⟩ = some (.string NM) := hcb.cell 1; have n2 : wb.cell? ⟨ga, 2, none⟩ = some (.string VL) := hcb.cell 2; have n3 : wb.cell? ⟨ga, 3, none⟩ = some (.int .i64 P) := hcb.cell 3)
              | (go_at_call 51; refine (cU.out _ (by first | exact Fr.refl _ _ | assumption)).mono ?_; rintro e w5 ⟨rfl, h5⟩; have h5' := h5.symm; subst h5'))
          refine (cT.out _).mono ?_
          rintro e w5 ⟨rfl, h5⟩
          have h5' := h5.symm
          subst h5'
          go_wp2_with fail
          refine (cS.out _ (by assumption)).mono ?_
          rintro e w6 ⟨rfl, f6⟩
          have frc := frb.trans f6
          have m0 : w6.cell? ⟨ga, 0, none⟩ = some (.int .u8 ((4 : Nat) : Int)) := (hcb.kept f6 (by simp)).cell 0
          have m1 : w6.cell? ⟨ga, 1, none⟩ = some (.string NM) := (hcb.kept f6 (by simp)).cell 1
          have m2 : w6.cell? ⟨ga, 2, none⟩ = some (.string VL) := (hcb.kept f6 (by simp)).cell 2
          go_wp2_with fail
          all_goals
            go_ret
            exact ⟨rfl, frc⟩
        | false =>
          go_enter Tryd.func45, Tryd.ntmps45
          go_wp2_with (first
              | (refine wp_alloc 37 rfl rfl _ zeroN _ rfl ?_; intro wa ga hga hca fa)
              | (refine wp_storeC 37 rfl _ _ rfl ga _ (ndC 4 NM VL P) rfl rfl hca infoN rfl (ndC_one _ _ _ _) ?_; intro wb hcb fb; have frb : Fr [] w wb := (fa).then fb (fun j hj hm => (by simp at hm; omega)); have n0 : wb.cell? ⟨ga, 0, none⟩ = some (.int .u8 ((4 : Nat) : Int)) := hcb.cell 0; have n1 : wb.cell? ⟨ga, 1, none⟩ = some (.string NM) := hcb.cell 1; have n2 : wb.cell? ⟨ga, 2, none⟩ = some (.string VL) := hcb.cell 2; have n3 : wb.cell? ⟨ga, 3, none⟩ = some (.int .i64 P) := hcb.cell 3)
              | (go_at_call 51; refine (cU.out _ (by first | exact Fr.refl _ _ | assumption)).mono ?_; rintro e w5 ⟨rfl, h5⟩; have h5' := h5.symm; subst h5'))
          refine (cT.out _).mono ?_
          rintro e w5 ⟨rfl, h5⟩
          have h5' := h5.symm
          subst h5'
          go_wp2_with fail
          refine (cS.out _ (by assumption)).mono ?_
          rintro e w6 ⟨rfl, f6⟩
          have frc := frb.trans f6
          have m0 : w6.cell? ⟨ga, 0, none⟩ = some (.int .u8 ((4 : Nat) : Int)) := (hcb.kept f6 (by simp)).cell 0
          have m1 : w6.cell? ⟨ga, 1, none⟩ = some (.string NM) := (hcb.kept f6 (by simp)).cell 1
          have m2 : w6.cell? ⟨ga, 2, none⟩ = some (.string VL) := (hcb.kept f6 (by simp)).cell 2
          go_wp2_with fail
          all_goals
            go_ret
            exact ⟨rfl, frc⟩
  · have u0 : ((U : Int) == 0) = false := by rw [beq_eq_false_iff_ne]; omega
    have u2 : ((U : Int) == 2) = false := by rw [beq_eq_false_iff_ne]; omega
    rw [u0, u2]
    rw [show (false || false) = false from rfl, Bool.false_and]
    go_enter Tryd.func45, Tryd.ntmps45
    go_wp2_with (first
        | (refine wp_alloc 37 rfl rfl _ zeroN _ rfl ?_; intro wa ga hga hca fa)
        | (refine wp_storeC 37 rfl _ _ rfl ga _ (ndC 4 NM VL P) rfl rfl hca infoN rfl (ndC_one _ _ _ _) ?_; intro wb hcb fb; have frb : Fr [] w wb := (fa).then fb (fun j hj hm => (by simp at hm; omega)); have n0 : wb.cell? ⟨ga, 0, none⟩ = some (.int .u8 ((4 : Nat) : Int)) := hcb.cell 0; have n1 : wb.cell? ⟨ga, 1, none⟩ = some (.string NM) := hcb.cell 1; have n2 : wb.cell? ⟨ga, 2, none⟩ = some (.string VL) := hcb.cell 2; have n3 : wb.cell? ⟨ga, 3, none⟩ = some (.int .i64 P) := hcb.cell 3)
        | (go_at_call 51; refine (cU.out _ (by first | exact Fr.refl _ _ | assumption)).mono ?_; rintro e w5 ⟨rfl, h5⟩; have h5' := h5.symm; subst h5'))
    refine (cT.out _).mono ?_
    rintro e w5 ⟨rfl, h5⟩
    have h5' := h5.symm
    subst h5'
    go_wp2_with fail
    refine (cS.out _ (by assumption)).mono ?_
    rintro e w6 ⟨rfl, f6⟩
    have frc := frb.trans f6
    have m0 : w6.cell? ⟨ga, 0, none⟩ = some (.int .u8 ((4 : Nat) : Int)) := (hcb.kept f6 (by simp)).cell 0
    have m1 : w6.cell? ⟨ga, 1, none⟩ = some (.string NM) := (hcb.kept f6 (by simp)).cell 1
    have m2 : w6.cell? ⟨ga, 2, none⟩ = some (.string VL) := (hcb.kept f6 (by simp)).cell 2
    go_wp2_with fail
    all_goals
      go_ret
      exact ⟨rfl, frc⟩
set_option maxHeartbeats 8000000 in
set_option maxRecDepth 100000 in
theorem fits_4b (w : World) (b off c n : Nat) (i : Nat) (hi : i < n) (hl : n ≤ 16384) (NM VL : ByteArray) (P : Int) (U : Nat) (m KS : Nat) (hm : m < n)
    (c0 : w.cell? ⟨b, off + i * 4, none⟩ = some (.int .u8 ((4 : Nat) : Int))) (c1 : w.cell? ⟨b, off + i * 4 + 1, none⟩ = some (.string NM)) (c2 : w.cell? ⟨b, off + i * 4 + 2, none⟩ = some (.string VL)) (c3 : w.cell? ⟨b, off + i * 4 + 3, none⟩ = some (.int .i64 P))
    (cU : Hid (∀ w', Fr [] w w' → Calls Tryd.prog 51 #[.slice (some ⟨b, off, none⟩) n c, .int .i64 (i : Int)] w' fun e w'' => e = .returned (.int .u8 (U : Int)) ∧ w'' = w'))
    (cT : Hid (∀ w', Calls Tryd.prog 52 #[.string VL] w' fun e w'' => e = .returned (.bool true) ∧ w'' = w'))
    (hSz : ¬ (65536 : Int) < (VL.size : Int))
    (cS : Hid (∀ w', Fr [] w w' → Calls Tryd.prog 55 #[.slice (some ⟨b, off, none⟩) n c, .int .i64 (i : Int)] w' fun e w'' => e = .returned (.int .i64 (m : Int)) ∧ Fr [] w' w''))
    (HS : Hid (∀ w', Fr [] w w' → w'.cell? ⟨b, off + m * 4, none⟩ = some (.int .u8 (KS : Int))))
    : Calls Tryd.prog 45 #[.slice (some ⟨b, off, none⟩) n c, .int .i64 (i : Int)] w fun e w' => e = .returned (.bool ((((U : Int) == 0) || ((U : Int) == 2)) && (NM.toList.isEmpty && (!VL.toList.isEmpty && ((KS : Int) != 4))))) ∧ Fr [] w w' := by
  have hi' : (i : Int) < (n : Int) := by omega
  have hi0 : (0 : Int) ≤ (i : Int) := by omega
  by_cases hU : U = 0 ∨ U = 2
  · rcases hU with rfl | rfl
    all_goals
      cases hNE : NM.toList.isEmpty with
      | false =>
        rw [show (false && (!VL.toList.isEmpty && ((KS : Int) != 4))) = false from rfl, Bool.and_false]
        go_enter Tryd.func45, Tryd.ntmps45
        go_wp2_with (first
            | (refine wp_alloc 37 rfl rfl _ zeroN _ rfl ?_; intro wa ga hga hca fa)
            | (refine wp_storeC 37 rfl _ _ rfl ga _ (ndC 4 NM VL P) rfl rfl hca infoN rfl (ndC_one _ _ _ _) ?_; intro wb hcb fb; have frb : Fr [] w wb := (fa).then fb (fun j hj hm => (by simp at hm; omega)); have n0 : wb.cell? ⟨ga, 0, none⟩ = some (.int .u8 ((4 : Nat) : Int)) := hcb.cell 0; have n1 : wb.cell? ⟨ga, 1, none⟩ = some (.string NM) := hcb.cell 1; have n2 : wb.cell? ⟨ga, 2, none⟩ = some (.string VL) := hcb.cell 2; have n3 : wb.cell? ⟨ga, 3, none⟩ = some (.int .i64 P) := hcb.cell 3)
            | (go_at_call 51; refine (cU.out _ (by first | exact Fr.refl _ _ | assumption)).mono ?_; rintro e w5 ⟨rfl, h5⟩; have h5' := h5.symm; subst h5'))
        refine (cT.out _).mono ?_
        rintro e w5 ⟨rfl, h5⟩
        have h5' := h5.symm
        subst h5'
        go_wp2_with fail
        refine (cS.out _ (by assumption)).mono ?_
        rintro e w6 ⟨rfl, f6⟩
        have frc := frb.trans f6
        have m0 : w6.cell? ⟨ga, 0, none⟩ = some (.int .u8 ((4 : Nat) : Int)) := (hcb.kept f6 (by simp)).cell 0
        have m1 : w6.cell? ⟨ga, 1, none⟩ = some (.string NM) := (hcb.kept f6 (by simp)).cell 1
        have m2 : w6.cell? ⟨ga, 2, none⟩ = some (.string VL) := (hcb.kept f6 (by simp)).cell 2
        have q0 := HS.out _ frc
        go_wp2_with fail
        all_goals
          go_ret
          exact ⟨rfl, frc⟩
      | true =>
        cases hVE : VL.toList.isEmpty with
        | true =>
          rw [show ((!true) && ((KS : Int) != 4)) = false from rfl, Bool.and_false, Bool.and_false]
          go_enter Tryd.func45, Tryd.ntmps45
          go_wp2_with (first
              | (refine wp_alloc 37 rfl rfl _ zeroN _ rfl ?_; intro wa ga hga hca fa)
              | (refine wp_storeC 37 rfl _ _ rfl ga _ (ndC 4 NM VL P) rfl rfl hca infoN rfl (ndC_one _ _ _ _) ?_; intro wb hcb fb; have frb : Fr [] w wb := (fa).then fb (fun j hj hm => (by simp at hm; omega)); have n0 : wb.cell? ⟨ga, 0, none⟩ = some (.int .u8 ((4 : Nat) : Int)) := hcb.cell 0; have n1 : wb.cell? ⟨ga, 1, none⟩ = some (.string NM) := hcb.cell 1; have n2 : wb.cell? ⟨ga, 2, none⟩ = some (.string VL) := hcb.cell 2; have n3 : wb.cell? ⟨ga, 3, none⟩ = some (.int .i64 P) := hcb.cell 3)
              | (go_at_call 51; refine (cU.out _ (by first | exact Fr.refl _ _ | assumption)).mono ?_; rintro e w5 ⟨rfl, h5⟩; have h5' := h5.symm; subst h5'))
          refine (cT.out _).mono ?_
          rintro e w5 ⟨rfl, h5⟩
          have h5' := h5.symm
          subst h5'
          go_wp2_with fail
          refine (cS.out _ (by assumption)).mono ?_
          rintro e w6 ⟨rfl, f6⟩
          have frc := frb.trans f6
          have m0 : w6.cell? ⟨ga, 0, none⟩ = some (.int .u8 ((4 : Nat) : Int)) := (hcb.kept f6 (by simp)).cell 0
          have m1 : w6.cell? ⟨ga, 1, none⟩ = some (.string NM) := (hcb.kept f6 (by simp)).cell 1
          have m2 : w6.cell? ⟨ga, 2, none⟩ = some (.string VL) := (hcb.kept f6 (by simp)).cell 2
          have q0 := HS.out _ frc
          go_wp2_with fail
          all_goals
            go_ret
            exact ⟨rfl, frc⟩
        | false =>
          have hm' : (m : Int) < (n : Int) := by omega
          have hm0 : (0 : Int) ≤ (m : Int) := by omega
          have hmn : ¬ (m : Int) < 0 := by omega
          by_cases hX4 : KS = 4
          · subst hX4
            go_enter Tryd.func45, Tryd.ntmps45
            go_wp2_with (first
                | (refine wp_alloc 37 rfl rfl _ zeroN _ rfl ?_; intro wa ga hga hca fa)
                | (refine wp_storeC 37 rfl _ _ rfl ga _ (ndC 4 NM VL P) rfl rfl hca infoN rfl (ndC_one _ _ _ _) ?_; intro wb hcb fb; have frb : Fr [] w wb := (fa).then fb (fun j hj hm => (by simp at hm; omega)); have n0 : wb.cell? ⟨ga, 0, none⟩ = some (.int .u8 ((4 : Nat) : Int)) := hcb.cell 0; have n1 : wb.cell? ⟨ga, 1, none⟩ = some (.string NM) := hcb.cell 1; have n2 : wb.cell? ⟨ga, 2, none⟩ = some (.string VL) := hcb.cell 2; have n3 : wb.cell? ⟨ga, 3, none⟩ = some (.int .i64 P) := hcb.cell 3)
                | (go_at_call 51; refine (cU.out _ (by first | exact Fr.refl _ _ | assumption)).mono ?_; rintro e w5 ⟨rfl, h5⟩; have h5' := h5.symm; subst h5'))
            refine (cT.out _).mono ?_
            rintro e w5 ⟨rfl, h5⟩
            have h5' := h5.symm
            subst h5'
            go_wp2_with fail
            refine (cS.out _ (by assumption)).mono ?_
            rintro e w6 ⟨rfl, f6⟩
            have frc := frb.trans f6
            have m0 : w6.cell? ⟨ga, 0, none⟩ = some (.int .u8 ((4 : Nat) : Int)) := (hcb.kept f6 (by simp)).cell 0
            have m1 : w6.cell? ⟨ga, 1, none⟩ = some (.string NM) := (hcb.kept f6 (by simp)).cell 1
            have m2 : w6.cell? ⟨ga, 2, none⟩ = some (.string VL) := (hcb.kept f6 (by simp)).cell 2
            have q0 := HS.out _ frc
            go_wp2_with fail
            all_goals
              go_ret
              exact ⟨rfl, frc⟩
          · have hX5 : ((KS : Int) != 4) = true := by rw [bne_iff_ne]; omega
            rw [hX5]
            go_enter Tryd.func45, Tryd.ntmps45
            go_wp2_with (first
                | (refine wp_alloc 37 rfl rfl _ zeroN _ rfl ?_; intro wa ga hga hca fa)
                | (refine wp_storeC 37 rfl _ _ rfl ga _ (ndC 4 NM VL P) rfl rfl hca infoN rfl (ndC_one _ _ _ _) ?_; intro wb hcb fb; have frb : Fr [] w wb := (fa).then fb (fun j hj hm => (by simp at hm; omega)); have n0 : wb.cell? ⟨ga, 0, none⟩ = some (.int .u8 ((4 : Nat) : Int)) := hcb.cell 0; have n1 : wb.cell? ⟨ga, 1, none⟩ = some (.string NM) := hcb.cell 1; have n2 : wb.cell? ⟨ga, 2, none⟩ = some (.string VL) := hcb.cell 2; have n3 : wb.cell? ⟨ga, 3, none⟩ = some (.int .i64 P) := hcb.cell 3)
                | (go_at_call 51; refine (cU.out _ (by first | exact Fr.refl _ _ | assumption)).mono ?_; rintro e w5 ⟨rfl, h5⟩; have h5' := h5.symm; subst h5'))
            refine (cT.out _).mono ?_
            rintro e w5 ⟨rfl, h5⟩
            have h5' := h5.symm
            subst h5'
            go_wp2_with fail
            refine (cS.out _ (by assumption)).mono ?_
            rintro e w6 ⟨rfl, f6⟩
            have frc := frb.trans f6
            have m0 : w6.cell? ⟨ga, 0, none⟩ = some (.int .u8 ((4 : Nat) : Int)) := (hcb.kept f6 (by simp)).cell 0
            have m1 : w6.cell? ⟨ga, 1, none⟩ = some (.string NM) := (hcb.kept f6 (by simp)).cell 1
            have m2 : w6.cell? ⟨ga, 2, none⟩ = some (.string VL) := (hcb.kept f6 (by simp)).cell 2
            have q0 := HS.out _ frc
            go_wp2_with fail
            all_goals
              go_ret
              exact ⟨rfl, frc⟩
  · have u0 : ((U : Int) == 0) = false := by rw [beq_eq_false_iff_ne]; omega
    have u2 : ((U : Int) == 2) = false := by rw [beq_eq_false_iff_ne]; omega
    rw [u0, u2]
    rw [show (false || false) = false from rfl, Bool.false_and]
    go_enter Tryd.func45, Tryd.ntmps45
    go_wp2_with (first
        | (refine wp_alloc 37 rfl rfl _ zeroN _ rfl ?_; intro wa ga hga hca fa)
        | (refine wp_storeC 37 rfl _ _ rfl ga _ (ndC 4 NM VL P) rfl rfl hca infoN rfl (ndC_one _ _ _ _) ?_; intro wb hcb fb; have frb : Fr [] w wb := (fa).then fb (fun j hj hm => (by simp at hm; omega)); have n0 : wb.cell? ⟨ga, 0, none⟩ = some (.int .u8 ((4 : Nat) : Int)) := hcb.cell 0; have n1 : wb.cell? ⟨ga, 1, none⟩ = some (.string NM) := hcb.cell 1; have n2 : wb.cell? ⟨ga, 2, none⟩ = some (.string VL) := hcb.cell 2; have n3 : wb.cell? ⟨ga, 3, none⟩ = some (.int .i64 P) := hcb.cell 3)
        | (go_at_call 51; refine (cU.out _ (by first | exact Fr.refl _ _ | assumption)).mono ?_; rintro e w5 ⟨rfl, h5⟩; have h5' := h5.symm; subst h5'))
    refine (cT.out _).mono ?_
    rintro e w5 ⟨rfl, h5⟩
    have h5' := h5.symm
    subst h5'
    go_wp2_with fail
    refine (cS.out _ (by assumption)).mono ?_
    rintro e w6 ⟨rfl, f6⟩
    have frc := frb.trans f6
    have m0 : w6.cell? ⟨ga, 0, none⟩ = some (.int .u8 ((4 : Nat) : Int)) := (hcb.kept f6 (by simp)).cell 0
    have m1 : w6.cell? ⟨ga, 1, none⟩ = some (.string NM) := (hcb.kept f6 (by simp)).cell 1
    have m2 : w6.cell? ⟨ga, 2, none⟩ = some (.string VL) := (hcb.kept f6 (by simp)).cell 2
    have q0 := HS.out _ frc
    go_wp2_with fail
    all_goals
      go_ret
      exact ⟨rfl, frc⟩
end Go.Proofs.YtjdcfaaoicnajaaDoor

set_option linter.unusedVariables false
set_option linter.unusedSimpArgs false
namespace Go.Proofs.YtjdcfaaoicnajaaDoor
open Go.RowKit Go.Maps Go.Lib

set_option maxHeartbeats 8000000 in
set_option maxRecDepth 100000 in
theorem fits_5a (w : World) (b off c n : Nat) (i : Nat) (hi : i < n) (hl : n ≤ 16384) (NM VL : ByteArray) (P : Int) (U : Nat) (H : Bool) (h0 : VL.toList.isEmpty = true)
    (c0 : w.cell? ⟨b, off + i * 4, none⟩ = some (.int .u8 ((5 : Nat) : Int))) (c1 : w.cell? ⟨b, off + i * 4 + 1, none⟩ = some (.string NM)) (c2 : w.cell? ⟨b, off + i * 4 + 2, none⟩ = some (.string VL)) (c3 : w.cell? ⟨b, off + i * 4 + 3, none⟩ = some (.int .i64 P))
    (cU : Hid (∀ w', Fr [] w w' → Calls Tryd.prog 51 #[.slice (some ⟨b, off, none⟩) n c, .int .i64 (i : Int)] w' fun e w'' => e = .returned (.int .u8 (U : Int)) ∧ w'' = w'))
    (cT : Hid (∀ w', Calls Tryd.prog 52 #[.string VL] w' fun e w'' => e = .returned (.bool true) ∧ w'' = w'))
    (hSz : ¬ (65536 : Int) < (VL.size : Int))
    (cH : Hid (∀ w', Calls Tryd.prog 56 #[.string VL, .string ⟨#[45, 45]⟩] w' fun e w'' => e = .returned (.bool H) ∧ w'' = w'))
    : Calls Tryd.prog 45 #[.slice (some ⟨b, off, none⟩) n c, .int .i64 (i : Int)] w fun e w' => e = .returned (.bool ((((U : Int) == 0) || (((U : Int) == 2) || ((U : Int) == 1))) && (NM.toList.isEmpty && (!H && true)))) ∧ Fr [] w w' := by
  have hi' : (i : Int) < (n : Int) := by omega
  have hi0 : (0 : Int) ≤ (i : Int) := by omega
  by_cases hU : U = 0 ∨ U = 2 ∨ U = 1
  · rcases hU with rfl | rfl | rfl
    all_goals
      cases hNE : NM.toList.isEmpty with
      | false =>
        rw [show (false && (!H && true)) = false from rfl, Bool.and_false]
        go_enter Tryd.func45, Tryd.ntmps45
        go_wp2_with (first
            | (refine wp_alloc 37 rfl rfl _ zeroN _ rfl ?_; intro wa ga hga hca fa)
            | (refine wp_storeC 37 rfl _ _ rfl ga _ (ndC 5 NM VL P) rfl rfl hca infoN rfl (ndC_one _ _ _ _) ?_; intro wb hcb fb; have frb : Fr [] w wb := (fa).then fb (fun j hj hm => (by simp at hm; omega)); have n0 : wb.cell? ⟨ga, 0, none⟩ = some (.int .u8 ((5 : Nat) : Int)) := hcb.cell 0; have n1 : wb.cell? ⟨ga, 1, none⟩ = some (.string NM) := hcb.cell 1; have n2 : wb.cell? ⟨ga, 2, none⟩ = some (.string VL) := hcb.cell 2; have n3 : wb.cell? ⟨ga, 3, none⟩ = some (.int .i64 P) := hcb.cell 3)
            | (go_at_call 51; refine (cU.out _ (by first | exact Fr.refl _ _ | assumption)).mono ?_; rintro e w5 ⟨rfl, h5⟩; have h5' := h5.symm; subst h5'))
        refine (cT.out _).mono ?_
        rintro e w5 ⟨rfl, h5⟩
        have h5' := h5.symm
        subst h5'
        go_wp2_with fail
        all_goals
          go_ret
          exact ⟨rfl, frb⟩
      | true =>
        cases H with
        | true =>
          rw [show ((!true) && true) = false from rfl, Bool.and_false, Bool.and_false]
          go_enter Tryd.func45, Tryd.ntmps45
          go_wp2_with (first
              | (refine wp_alloc 37 rfl rfl _ zeroN _ rfl ?_; intro wa ga hga hca fa)
              | (refine wp_storeC 37 rfl _ _ rfl ga _ (ndC 5 NM VL P) rfl rfl hca infoN rfl (ndC_one _ _ _ _) ?_; intro wb hcb fb; have frb : Fr [] w wb := (fa).then fb (fun j hj hm => (by simp at hm; omega)); have n0 : wb.cell? ⟨ga, 0, none⟩ = some (.int .u8 ((5 : Nat) : Int)) := hcb.cell 0; have n1 : wb.cell? ⟨ga, 1, none⟩ = some (.string NM) := hcb.cell 1; have n2 : wb.cell? ⟨ga, 2, none⟩ = some (.string VL) := hcb.cell 2; have n3 : wb.cell? ⟨ga, 3, none⟩ = some (.int .i64 P) := hcb.cell 3)
              | (go_at_call 51; refine (cU.out _ (by first | exact Fr.refl _ _ | assumption)).mono ?_; rintro e w5 ⟨rfl, h5⟩; have h5' := h5.symm; subst h5'))
          refine (cT.out _).mono ?_
          rintro e w5 ⟨rfl, h5⟩
          have h5' := h5.symm
          subst h5'
          go_wp2_with fail
          refine (cH.out _).mono ?_
          rintro e w5 ⟨rfl, h5⟩
          have h5' := h5.symm
          subst h5'
          go_wp2_with fail
          all_goals
            go_ret
            exact ⟨rfl, frb⟩
        | false =>
          go_enter Tryd.func45, Tryd.ntmps45
          go_wp2_with (first
              | (refine wp_alloc 37 rfl rfl _ zeroN _ rfl ?_; intro wa ga hga hca fa)
              | (refine wp_storeC 37 rfl _ _ rfl ga _ (ndC 5 NM VL P) rfl rfl hca infoN rfl (ndC_one _ _ _ _) ?_; intro wb hcb fb; have frb : Fr [] w wb := (fa).then fb (fun j hj hm => (by simp at hm; omega)); have n0 : wb.cell? ⟨ga, 0, none⟩ = some (.int .u8 ((5 : Nat) : Int)) := hcb.cell 0; have n1 : wb.cell? ⟨ga, 1, none⟩ = some (.string NM) := hcb.cell 1; have n2 : wb.cell? ⟨ga, 2, none⟩ = some (.string VL) := hcb.cell 2; have n3 : wb.cell? ⟨ga, 3, none⟩ = some (.int .i64 P) := hcb.cell 3)
              | (go_at_call 51; refine (cU.out _ (by first | exact Fr.refl _ _ | assumption)).mono ?_; rintro e w5 ⟨rfl, h5⟩; have h5' := h5.symm; subst h5'))
          refine (cT.out _).mono ?_
          rintro e w5 ⟨rfl, h5⟩
          have h5' := h5.symm
          subst h5'
          go_wp2_with fail
          refine (cH.out _).mono ?_
          rintro e w5 ⟨rfl, h5⟩
          have h5' := h5.symm
          subst h5'
          go_wp2_with fail
          all_goals
            go_ret
            exact ⟨rfl, frb⟩
  · have u0 : ((U : Int) == 0) = false := by rw [beq_eq_false_iff_ne]; omega
    have u2 : ((U : Int) == 2) = false := by rw [beq_eq_false_iff_ne]; omega
    have u1 : ((U : Int) == 1) = false := by rw [beq_eq_false_iff_ne]; omega
    rw [u0, u1, u2]
    rw [show (false || (false || false)) = false from rfl, Bool.false_and]
    go_enter Tryd.func45, Tryd.ntmps45
    go_wp2_with (first
        | (refine wp_alloc 37 rfl rfl _ zeroN _ rfl ?_; intro wa ga hga hca fa)
        | (refine wp_storeC 37 rfl _ _ rfl ga _ (ndC 5 NM VL P) rfl rfl hca infoN rfl (ndC_one _ _ _ _) ?_; intro wb hcb fb; have frb : Fr [] w wb := (fa).then fb (fun j hj hm => (by simp at hm; omega)); have n0 : wb.cell? ⟨ga, 0, none⟩ = some (.int .u8 ((5 : Nat) : Int)) := hcb.cell 0; have n1 : wb.cell? ⟨ga, 1, none⟩ = some (.string NM) := hcb.cell 1; have n2 : wb.cell? ⟨ga, 2, none⟩ = some (.string VL) := hcb.cell 2; have n3 : wb.cell? ⟨ga, 3, none⟩ = some (.int .i64 P) := hcb.cell 3)
        | (go_at_call 51; refine (cU.out _ (by first | exact Fr.refl _ _ | assumption)).mono ?_; rintro e w5 ⟨rfl, h5⟩; have h5' := h5.symm; subst h5'))
    refine (cT.out _).mono ?_
    rintro e w5 ⟨rfl, h5⟩
    have h5' := h5.symm
    subst h5'
    go_wp2_with fail
    all_goals
      go_ret
      exact ⟨rfl, frb⟩
end Go.Proofs.YtjdcfaaoicnajaaDoor

set_option linter.unusedVariables false
set_option linter.unusedSimpArgs false
namespace Go.Proofs.YtjdcfaaoicnajaaDoor
open Go.RowKit Go.Maps Go.Lib

set_option maxHeartbeats 8000000 in
set_option maxRecDepth 100000 in
theorem fits_5b (w : World) (b off c n : Nat) (i : Nat) (hi : i < n) (hl : n ≤ 16384) (NM VL : ByteArray) (P : Int) (U : Nat) (H : Bool) (X : Nat) (h0 : VL.toList.isEmpty = false) (hz : 1 ≤ VL.size)
    (c0 : w.cell? ⟨b, off + i * 4, none⟩ = some (.int .u8 ((5 : Nat) : Int))) (c1 : w.cell? ⟨b, off + i * 4 + 1, none⟩ = some (.string NM)) (c2 : w.cell? ⟨b, off + i * 4 + 2, none⟩ = some (.string VL)) (c3 : w.cell? ⟨b, off + i * 4 + 3, none⟩ = some (.int .i64 P))
    (cU : Hid (∀ w', Fr [] w w' → Calls Tryd.prog 51 #[.slice (some ⟨b, off, none⟩) n c, .int .i64 (i : Int)] w' fun e w'' => e = .returned (.int .u8 (U : Int)) ∧ w'' = w'))
    (cT : Hid (∀ w', Calls Tryd.prog 52 #[.string VL] w' fun e w'' => e = .returned (.bool true) ∧ w'' = w'))
    (hSz : ¬ (65536 : Int) < (VL.size : Int))
    (cH : Hid (∀ w', Calls Tryd.prog 56 #[.string VL, .string ⟨#[45, 45]⟩] w' fun e w'' => e = .returned (.bool H) ∧ w'' = w'))
    (hX : Hid ((byteAt (bl VL) (VL.size - 1)).toNat = X))
    : Calls Tryd.prog 45 #[.slice (some ⟨b, off, none⟩) n c, .int .i64 (i : Int)] w fun e w' => e = .returned (.bool ((((U : Int) == 0) || (((U : Int) == 2) || ((U : Int) == 1))) && (NM.toList.isEmpty && (!H && ((X : Int) != 45))))) ∧ Fr [] w w' := by
  have hi' : (i : Int) < (n : Int) := by omega
  have hi0 : (0 : Int) ≤ (i : Int) := by omega
  by_cases hU : U = 0 ∨ U = 2 ∨ U = 1
  · rcases hU with rfl | rfl | rfl
    all_goals
      cases hNE : NM.toList.isEmpty with
      | false =>
        rw [show (false && (!H && ((X : Int) != 45))) = false from rfl, Bool.and_false]
        go_enter Tryd.func45, Tryd.ntmps45
        go_wp2_with (first
            | (refine wp_alloc 37 rfl rfl _ zeroN _ rfl ?_; intro wa ga hga hca fa)
            | (refine wp_storeC 37 rfl _ _ rfl ga _ (ndC 5 NM VL P) rfl rfl hca infoN rfl (ndC_one _ _ _ _) ?_; intro wb hcb fb; have frb : Fr [] w wb := (fa).then fb (fun j hj hm => (by simp at hm; omega)); have n0 : wb.cell? ⟨ga, 0, none⟩ = some (.int .u8 ((5 : Nat) : Int)) := hcb.cell 0; have n1 : wb.cell? ⟨ga, 1, none⟩ = some (.string NM) := hcb.cell 1; have n2 : wb.cell? ⟨ga, 2, none⟩ = some (.string VL) := hcb.cell 2; have n3 : wb.cell? ⟨ga, 3, none⟩ = some (.int .i64 P) := hcb.cell 3)
            | (go_at_call 51; refine (cU.out _ (by first | exact Fr.refl _ _ | assumption)).mono ?_; rintro e w5 ⟨rfl, h5⟩; have h5' := h5.symm; subst h5'))
        refine (cT.out _).mono ?_
        rintro e w5 ⟨rfl, h5⟩
        have h5' := h5.symm
        subst h5'
        go_wp2_with fail
        all_goals
          go_ret
          exact ⟨rfl, frb⟩
      | true =>
        cases H with
        | true =>
          rw [show ((!true) && ((X : Int) != 45)) = false from rfl, Bool.and_false, Bool.and_false]
          go_enter Tryd.func45, Tryd.ntmps45
          go_wp2_with (first
              | (refine wp_alloc 37 rfl rfl _ zeroN _ rfl ?_; intro wa ga hga hca fa)
              | (refine wp_storeC 37 rfl _ _ rfl ga _ (ndC 5 NM VL P) rfl rfl hca infoN rfl (ndC_one _ _ _ _) ?_; intro wb hcb fb; have frb : Fr [] w wb := (fa).then fb (fun j hj hm => (by simp at hm; omega)); have n0 : wb.cell? ⟨ga, 0, none⟩ = some (.int .u8 ((5 : Nat) : Int)) := hcb.cell 0; have n1 : wb.cell? ⟨ga, 1, none⟩ = some (.string NM) := hcb.cell 1; have n2 : wb.cell? ⟨ga, 2, none⟩ = some (.string VL) := hcb.cell 2; have n3 : wb.cell? ⟨ga, 3, none⟩ = some (.int .i64 P) := hcb.cell 3)
              | (go_at_call 51; refine (cU.out _ (by first | exact Fr.refl _ _ | assumption)).mono ?_; rintro e w5 ⟨rfl, h5⟩; have h5' := h5.symm; subst h5'))
          refine (cT.out _).mono ?_
          rintro e w5 ⟨rfl, h5⟩
          have h5' := h5.symm
          subst h5'
          go_wp2_with fail
          refine (cH.out _).mono ?_
          rintro e w5 ⟨rfl, h5⟩
          have h5' := h5.symm
          subst h5'
          go_wp2_with fail
          all_goals
            go_ret
            exact ⟨rfl, frb⟩
        | false =>
          have hz' : (1 : Int) ≤ (VL.size : Int) := by omega
          have hix := run_idx VL ((VL.size : Int) - 1) (VL.size - 1) (by omega) (by omega)
          rw [hX.out] at hix
          by_cases hX4 : X = 45
          · subst hX4
            go_enter Tryd.func45, Tryd.ntmps45
            go_wp2_with (first
                | (refine wp_alloc 37 rfl rfl _ zeroN _ rfl ?_; intro wa ga hga hca fa)
                | (refine wp_storeC 37 rfl _ _ rfl ga _ (ndC 5 NM VL P) rfl rfl hca infoN rfl (ndC_one _ _ _ _) ?_; intro wb hcb fb; have frb : Fr [] w wb := (fa).then fb (fun j hj hm => (by simp at hm; omega)); have n0 : wb.cell? ⟨ga, 0, none⟩ = some (.int .u8 ((5 : Nat) : Int)) := hcb.cell 0; have n1 : wb.cell? ⟨ga, 1, none⟩ = some (.string NM) := hcb.cell 1; have n2 : wb.cell? ⟨ga, 2, none⟩ = some (.string VL) := hcb.cell 2; have n3 : wb.cell? ⟨ga, 3, none⟩ = some (.int .i64 P) := hcb.cell 3)
                | (go_at_call 51; refine (cU.out _ (by first | exact Fr.refl _ _ | assumption)).mono ?_; rintro e w5 ⟨rfl, h5⟩; have h5' := h5.symm; subst h5'))
            refine (cT.out _).mono ?_
            rintro e w5 ⟨rfl, h5⟩
            have h5' := h5.symm
            subst h5'
            go_wp2_with fail
            refine (cH.out _).mono ?_
            rintro e w5 ⟨rfl, h5⟩
            have h5' := h5.symm
            subst h5'
            go_wp2_with fail
            all_goals
              go_ret
              exact ⟨rfl, frb⟩
          · have hX5 : ((X : Int) != 45) = true := by rw [bne_iff_ne]; omega
            rw [hX5]
            go_enter Tryd.func45, Tryd.ntmps45
            go_wp2_with (first
                | (refine wp_alloc 37 rfl rfl _ zeroN _ rfl ?_; intro wa ga hga hca fa)
                | (refine wp_storeC 37 rfl _ _ rfl ga _ (ndC 5 NM VL P) rfl rfl hca infoN rfl (ndC_one _ _ _ _) ?_; intro wb hcb fb; have frb : Fr [] w wb := (fa).then fb (fun j hj hm => (by simp at hm; omega)); have n0 : wb.cell? ⟨ga, 0, none⟩ = some (.int .u8 ((5 : Nat) : Int)) := hcb.cell 0; have n1 : wb.cell? ⟨ga, 1, none⟩ = some (.string NM) := hcb.cell 1; have n2 : wb.cell? ⟨ga, 2, none⟩ = some (.string VL) := hcb.cell 2; have n3 : wb.cell? ⟨ga, 3, none⟩ = some (.int .i64 P) := hcb.cell 3)
                | (go_at_call 51; refine (cU.out _ (by first | exact Fr.refl _ _ | assumption)).mono ?_; rintro e w5 ⟨rfl, h5⟩; have h5' := h5.symm; subst h5'))
            refine (cT.out _).mono ?_
            rintro e w5 ⟨rfl, h5⟩
            have h5' := h5.symm
            subst h5'
            go_wp2_with fail
            refine (cH.out _).mono ?_
            rintro e w5 ⟨rfl, h5⟩
            have h5' := h5.symm
            subst h5'
            go_wp2_with fail
            all_goals
              go_ret
              exact ⟨rfl, frb⟩
  · have u0 : ((U : Int) == 0) = false := by rw [beq_eq_false_iff_ne]; omega
    have u2 : ((U : Int) == 2) = false := by rw [beq_eq_false_iff_ne]; omega
    have u1 : ((U : Int) == 1) = false := by rw [beq_eq_false_iff_ne]; omega
    rw [u0, u1, u2]
    rw [show (false || (false || false)) = false from rfl, Bool.false_and]
    go_enter Tryd.func45, Tryd.ntmps45
    go_wp2_with (first
        | (refine wp_alloc 37 rfl rfl _ zeroN _ rfl ?_; intro wa ga hga hca fa)
        | (refine wp_storeC 37 rfl _ _ rfl ga _ (ndC 5 NM VL P) rfl rfl hca infoN rfl (ndC_one _ _ _ _) ?_; intro wb hcb fb; have frb : Fr [] w wb := (fa).then fb (fun j hj hm => (by simp at hm; omega)); have n0 : wb.cell? ⟨ga, 0, none⟩ = some (.int .u8 ((5 : Nat) : Int)) := hcb.cell 0; have n1 : wb.cell? ⟨ga, 1, none⟩ = some (.string NM) := hcb.cell 1; have n2 : wb.cell? ⟨ga, 2, none⟩ = some (.string VL) := hcb.cell 2; have n3 : wb.cell? ⟨ga, 3, none⟩ = some (.int .i64 P) := hcb.cell 3)
        | (go_at_call 51; refine (cU.out _ (by first | exact Fr.refl _ _ | assumption)).mono ?_; rintro e w5 ⟨rfl, h5⟩; have h5' := h5.symm; subst h5'))
    refine (cT.out _).mono ?_
    rintro e w5 ⟨rfl, h5⟩
    have h5' := h5.symm
    subst h5'
    go_wp2_with fail
    all_goals
      go_ret
      exact ⟨rfl, frb⟩
end Go.Proofs.YtjdcfaaoicnajaaDoor

set_option linter.unusedVariables false
set_option linter.unusedSimpArgs false
namespace Go.Proofs.YtjdcfaaoicnajaaDoor
open Go.RowKit Go.Maps Go.Lib

set_option maxHeartbeats 8000000 in
set_option maxRecDepth 100000 in
theorem fits_6a (w : World) (b off c n : Nat) (i : Nat) (hi : i < n) (hl : n ≤ 16384) (NM VL : ByteArray) (P : Int) (U : Nat) (NB XB H : Bool) (h0 : VL.toList.isEmpty = true)
    (c0 : w.cell? ⟨b, off + i * 4, none⟩ = some (.int .u8 ((6 : Nat) : Int))) (c1 : w.cell? ⟨b, off + i * 4 + 1, none⟩ = some (.string NM)) (c2 : w.cell? ⟨b, off + i * 4 + 2, none⟩ = some (.string VL)) (c3 : w.cell? ⟨b, off + i * 4 + 3, none⟩ = some (.int .i64 P))
    (cU : Hid (∀ w', Fr [] w w' → Calls Tryd.prog 51 #[.slice (some ⟨b, off, none⟩) n c, .int .i64 (i : Int)] w' fun e w'' => e = .returned (.int .u8 (U : Int)) ∧ w'' = w'))
    (cT : Hid (∀ w', Calls Tryd.prog 52 #[.string VL] w' fun e w'' => e = .returned (.bool true) ∧ w'' = w'))
    (hSz : ¬ (65536 : Int) < (VL.size : Int))
    (cN : Hid (∀ w', Calls Tryd.prog 53 #[.string NM] w' fun e w'' => e = .returned (.bool NB) ∧ w'' = w'))
    (cX : Hid (∀ w', Calls Tryd.prog 57 #[.string NM] w' fun e w'' => e = .returned (.bool XB) ∧ w'' = w'))
    (cH : Hid (∀ w', Calls Tryd.prog 56 #[.string VL, .string ⟨#[63, 62]⟩] w' fun e w'' => e = .returned (.bool H) ∧ w'' = w'))
    : Calls Tryd.prog 45 #[.slice (some ⟨b, off, none⟩) n c, .int .i64 (i : Int)] w fun e w' => e = .returned (.bool ((((U : Int) == 0) || (((U : Int) == 2) || ((U : Int) == 1))) && (NB && (!XB && (!H && true))))) ∧ Fr [] w w' := by
  have hi' : (i : Int) < (n : Int) := by omega
  have hi0 : (0 : Int) ≤ (i : Int) := by omega
  by_cases hU : U = 0 ∨ U = 2 ∨ U = 1
  · rcases hU with rfl | rfl | rfl
    all_goals
      cases NB with
      | false =>
        rw [Bool.false_and, Bool.and_false]
        go_enter Tryd.func45, Tryd.ntmps45
        go_wp2_with (first
            | (refine wp_alloc 37 rfl rfl _ zeroN _ rfl ?_; intro wa ga hga hca fa)
            | (refine wp_storeC 37 rfl _ _ rfl ga _ (ndC 6 NM VL P) rfl rfl hca infoN rfl (ndC_one _ _ _ _) ?_; intro wb hcb fb; have frb : Fr [] w wb := (fa).then fb (fun j hj hm => (by simp at hm; omega)); have n0 : wb.cell? ⟨ga, 0, none⟩ = some (.int .u8 ((6 : Nat) : Int)) := hcb.cell 0; have n1 : wb.cell? ⟨ga, 1, none⟩ = some (.string NM) := hcb.cell 1; have n2 : wb.cell? ⟨ga, 2, none⟩ = some (.string VL) := hcb.cell 2; have n3 : wb.cell? ⟨ga, 3, none⟩ = some (.int .i64 P) := hcb.cell 3)
            | (go_at_call 51; refine (cU.out _ (by first | exact Fr.refl _ _ | assumption)).mono ?_; rintro e w5 ⟨rfl, h5⟩; have h5' := h5.symm; subst h5'))
        refine (cT.out _).mono ?_
        rintro e w5 ⟨rfl, h5⟩
        have h5' := h5.symm
        subst h5'
        go_wp2_with fail
        refine (cN.out _).mono ?_
        rintro e w5 ⟨rfl, h5⟩
        have h5' := h5.symm
        subst h5'
        go_wp2_with fail
        all_goals
          go_ret
          exact ⟨rfl, frb⟩
      | true =>
        cases XB with
        | true =>
          rw [Bool.not_true, Bool.false_and, Bool.and_false, Bool.and_false]
          go_enter Tryd.func45, Tryd.ntmps45
          go_wp2_with (first
              | (refine wp_alloc 37 rfl rfl _ zeroN _ rfl ?_; intro wa ga hga hca fa)
              | (refine wp_storeC 37 rfl _ _ rfl ga _ (ndC 6 NM VL P) rfl rfl hca infoN rfl (ndC_one _ _ _ _) ?_; intro wb hcb fb; have frb : Fr [] w wb := (fa).then fb (fun j hj hm => (by simp at hm; omega)); have n0 : wb.cell? ⟨ga, 0, none⟩ = some (.int .u8 ((6 : Nat) : Int)) := hcb.cell 0; have n1 : wb.cell? ⟨ga, 1, none⟩ = some (.string NM) := hcb.cell 1; have n2 : wb.cell? ⟨ga, 2, none⟩ = some (.string VL) := hcb.cell 2; have n3 : wb.cell? ⟨ga, 3, none⟩ = some (.int .i64 P) := hcb.cell 3)
              | (go_at_call 51; refine (cU.out _ (by first | exact Fr.refl _ _ | assumption)).mono ?_; rintro e w5 ⟨rfl, h5⟩; have h5' := h5.symm; subst h5'))
          refine (cT.out _).mono ?_
          rintro e w5 ⟨rfl, h5⟩
          have h5' := h5.symm
          subst h5'
          go_wp2_with fail
          refine (cN.out _).mono ?_
          rintro e w5 ⟨rfl, h5⟩
          have h5' := h5.symm
          subst h5'
          go_wp2_with fail
          refine (cX.out _).mono ?_
          rintro e w5 ⟨rfl, h5⟩
          have h5' := h5.symm
          subst h5'
          go_wp2_with fail
          all_goals
            go_ret
            exact ⟨rfl, frb⟩
        | false =>
          cases H with
          | true =>
            rw [Bool.not_true, Bool.false_and, Bool.and_false, Bool.and_false, Bool.and_false]
            go_enter Tryd.func45, Tryd.ntmps45
            go_wp2_with (first
                | (refine wp_alloc 37 rfl rfl _ zeroN _ rfl ?_; intro wa ga hga hca fa)
                | (refine wp_storeC 37 rfl _ _ rfl ga _ (ndC 6 NM VL P) rfl rfl hca infoN rfl (ndC_one _ _ _ _) ?_; intro wb hcb fb; have frb : Fr [] w wb := (fa).then fb (fun j hj hm => (by simp at hm; omega)); have n0 : wb.cell? ⟨ga, 0, none⟩ = some (.int .u8 ((6 : Nat) : Int)) := hcb.cell 0; have n1 : wb.cell? ⟨ga, 1, none⟩ = some (.string NM) := hcb.cell 1; have n2 : wb.cell? ⟨ga, 2, none⟩ = some (.string VL) := hcb.cell 2; have n3 : wb.cell? ⟨ga, 3, none⟩ = some (.int .i64 P) := hcb.cell 3)
                | (go_at_call 51; refine (cU.out _ (by first | exact Fr.refl _ _ | assumption)).mono ?_; rintro e w5 ⟨rfl, h5⟩; have h5' := h5.symm; subst h5'))
            refine (cT.out _).mono ?_
            rintro e w5 ⟨rfl, h5⟩
            have h5' := h5.symm
            subst h5'
            go_wp2_with fail
            refine (cN.out _).mono ?_
            rintro e w5 ⟨rfl, h5⟩
            have h5' := h5.symm
            subst h5'
            go_wp2_with fail
            refine (cX.out _).mono ?_
            rintro e w5 ⟨rfl, h5⟩
            have h5' := h5.symm
            subst h5'
            go_wp2_with fail
            refine (cH.out _).mono ?_
            rintro e w5 ⟨rfl, h5⟩
            have h5' := h5.symm
            subst h5'
            go_wp2_with fail
            all_goals
              go_ret
              exact ⟨rfl, frb⟩
          | false =>
            go_enter Tryd.func45, Tryd.ntmps45
            go_wp2_with (first
                | (refine wp_alloc 37 rfl rfl _ zeroN _ rfl ?_; intro wa ga hga hca fa)
                | (refine wp_storeC 37 rfl _ _ rfl ga _ (ndC 6 NM VL P) rfl rfl hca infoN rfl (ndC_one _ _ _ _) ?_; intro wb hcb fb; have frb : Fr [] w wb := (fa).then fb (fun j hj hm => (by simp at hm; omega)); have n0 : wb.cell? ⟨ga, 0, none⟩ = some (.int .u8 ((6 : Nat) : Int)) := hcb.cell 0; have n1 : wb.cell? ⟨ga, 1, none⟩ = some (.string NM) := hcb.cell 1; have n2 : wb.cell? ⟨ga, 2, none⟩ = some (.string VL) := hcb.cell 2; have n3 : wb.cell? ⟨ga, 3, none⟩ = some (.int .i64 P) := hcb.cell 3)
                | (go_at_call 51; refine (cU.out _ (by first | exact Fr.refl _ _ | assumption)).mono ?_; rintro e w5 ⟨rfl, h5⟩; have h5' := h5.symm; subst h5'))
            refine (cT.out _).mono ?_
            rintro e w5 ⟨rfl, h5⟩
            have h5' := h5.symm
            subst h5'
            go_wp2_with fail
            refine (cN.out _).mono ?_
            rintro e w5 ⟨rfl, h5⟩
            have h5' := h5.symm
            subst h5'
            go_wp2_with fail
            refine (cX.out _).mono ?_
            rintro e w5 ⟨rfl, h5⟩
            have h5' := h5.symm
            subst h5'
            go_wp2_with fail
            refine (cH.out _).mono ?_
            rintro e w5 ⟨rfl, h5⟩
            have h5' := h5.symm
            subst h5'
            go_wp2_with fail
            all_goals
              go_ret
              exact ⟨rfl, frb⟩
  · have u0 : ((U : Int) == 0) = false := by rw [beq_eq_false_iff_ne]; omega
    have u2 : ((U : Int) == 2) = false := by rw [beq_eq_false_iff_ne]; omega
    have u1 : ((U : Int) == 1) = false := by rw [beq_eq_false_iff_ne]; omega
    rw [u0, u1, u2]
    rw [show (false || (false || false)) = false from rfl, Bool.false_and]
    go_enter Tryd.func45, Tryd.ntmps45
    go_wp2_with (first
        | (refine wp_alloc 37 rfl rfl _ zeroN _ rfl ?_; intro wa ga hga hca fa)
        | (refine wp_storeC 37 rfl _ _ rfl ga _ (ndC 6 NM VL P) rfl rfl hca infoN rfl (ndC_one _ _ _ _) ?_; intro wb hcb fb; have frb : Fr [] w wb := (fa).then fb (fun j hj hm => (by simp at hm; omega)); have n0 : wb.cell? ⟨ga, 0, none⟩ = some (.int .u8 ((6 : Nat) : Int)) := hcb.cell 0; have n1 : wb.cell? ⟨ga, 1, none⟩ = some (.string NM) := hcb.cell 1; have n2 : wb.cell? ⟨ga, 2, none⟩ = some (.string VL) := hcb.cell 2; have n3 : wb.cell? ⟨ga, 3, none⟩ = some (.int .i64 P) := hcb.cell 3)
        | (go_at_call 51; refine (cU.out _ (by first | exact Fr.refl _ _ | assumption)).mono ?_; rintro e w5 ⟨rfl, h5⟩; have h5' := h5.symm; subst h5'))
    refine (cT.out _).mono ?_
    rintro e w5 ⟨rfl, h5⟩
    have h5' := h5.symm
    subst h5'
    go_wp2_with fail
    all_goals
      go_ret
      exact ⟨rfl, frb⟩
end Go.Proofs.YtjdcfaaoicnajaaDoor

set_option linter.unusedVariables false
set_option linter.unusedSimpArgs false
namespace Go.Proofs.YtjdcfaaoicnajaaDoor
open Go.RowKit Go.Maps Go.Lib

set_option maxHeartbeats 8000000 in
set_option maxRecDepth 100000 in
theorem fits_6b (w : World) (b off c n : Nat) (i : Nat) (hi : i < n) (hl : n ≤ 16384) (NM VL : ByteArray) (P : Int) (U : Nat) (NB XB H BB : Bool) (h0 : VL.toList.isEmpty = false) (hz : 1 ≤ VL.size)
    (c0 : w.cell? ⟨b, off + i * 4, none⟩ = some (.int .u8 ((6 : Nat) : Int))) (c1 : w.cell? ⟨b, off + i * 4 + 1, none⟩ = some (.string NM)) (c2 : w.cell? ⟨b, off + i * 4 + 2, none⟩ = some (.string VL)) (c3 : w.cell? ⟨b, off + i * 4 + 3, none⟩ = some (.int .i64 P))
    (cU : Hid (∀ w', Fr [] w w' → Calls Tryd.prog 51 #[.slice (some ⟨b, off, none⟩) n c, .int .i64 (i : Int)] w' fun e w'' => e = .returned (.int .u8 (U : Int)) ∧ w'' = w'))
    (cT : Hid (∀ w', Calls Tryd.prog 52 #[.string VL] w' fun e w'' => e = .returned (.bool true) ∧ w'' = w'))
    (hSz : ¬ (65536 : Int) < (VL.size : Int))
    (cN : Hid (∀ w', Calls Tryd.prog 53 #[.string NM] w' fun e w'' => e = .returned (.bool NB) ∧ w'' = w'))
    (cX : Hid (∀ w', Calls Tryd.prog 57 #[.string NM] w' fun e w'' => e = .returned (.bool XB) ∧ w'' = w'))
    (cH : Hid (∀ w', Calls Tryd.prog 56 #[.string VL, .string ⟨#[63, 62]⟩] w' fun e w'' => e = .returned (.bool H) ∧ w'' = w'))
    (cB : Hid (∀ w', Calls Tryd.prog 58 #[.string (mkS ((bl VL).take 1))] w' fun e w'' => e = .returned (.bool BB) ∧ w'' = w'))
    : Calls Tryd.prog 45 #[.slice (some ⟨b, off, none⟩) n c, .int .i64 (i : Int)] w fun e w' => e = .returned (.bool ((((U : Int) == 0) || (((U : Int) == 2) || ((U : Int) == 1))) && (NB && (!XB && (!H && !BB))))) ∧ Fr [] w w' := by
  have hi' : (i : Int) < (n : Int) := by omega
  have hi0 : (0 : Int) ≤ (i : Int) := by omega
  by_cases hU : U = 0 ∨ U = 2 ∨ U = 1
  · rcases hU with rfl | rfl | rfl
    all_goals
      cases NB with
      | false =>
        rw [Bool.false_and, Bool.and_false]
        go_enter Tryd.func45, Tryd.ntmps45
        go_wp2_with (first
            | (refine wp_alloc 37 rfl rfl _ zeroN _ rfl ?_; intro wa ga hga hca fa)
            | (refine wp_storeC 37 rfl _ _ rfl ga _ (ndC 6 NM VL P) rfl rfl hca infoN rfl (ndC_one _ _ _ _) ?_; intro wb hcb fb; have frb : Fr [] w wb := (fa).then fb (fun j hj hm => (by simp at hm; omega)); have n0 : wb.cell? ⟨ga, 0, none⟩ = some (.int .u8 ((6 : Nat) : Int)) := hcb.cell 0; have n1 : wb.cell? ⟨ga, 1, none⟩ = some (.string NM) := hcb.cell 1; have n2 : wb.cell? ⟨ga, 2, none⟩ = some (.string VL) := hcb.cell 2; have n3 : wb.cell? ⟨ga, 3, none⟩ = some (.int .i64 P) := hcb.cell 3)
            | (go_at_call 51; refine (cU.out _ (by first | exact Fr.refl _ _ | assumption)).mono ?_; rintro e w5 ⟨rfl, h5⟩; have h5' := h5.symm; subst h5'))
        refine (cT.out _).mono ?_
        rintro e w5 ⟨rfl, h5⟩
        have h5' := h5.symm
        subst h5'
        go_wp2_with fail
        refine (cN.out _).mono ?_
        rintro e w5 ⟨rfl, h5⟩
        have h5' := h5.symm
        subst h5'
        go_wp2_with fail
        all_goals
          go_ret
          exact ⟨rfl, frb⟩
      | true =>
        cases XB with
        | true =>
          rw [Bool.not_true, Bool.false_and, Bool.and_false, Bool.and_false]
          go_enter Tryd.func45, Tryd.ntmps45
          go_wp2_with (first
              | (refine wp_alloc 37 rfl rfl _ zeroN _ rfl ?_; intro wa ga hga hca fa)
              | (refine wp_storeC 37 rfl _ _ rfl ga _ (ndC 6 NM VL P) rfl rfl hca infoN rfl (ndC_one _ _ _ _) ?_; intro wb hcb fb; have frb : Fr [] w wb := (fa).then fb (fun j hj hm => (by simp at hm; omega)); have n0 : wb.cell? ⟨ga, 0, none⟩ = some (.int .u8 ((6 : Nat) : Int)) := hcb.cell 0; have n1 : wb.cell? ⟨ga, 1, none⟩ = some (.string NM) := hcb.cell 1; have n2 : wb.cell? ⟨ga, 2, none⟩ = some (.string VL) := hcb.cell 2; have n3 : wb.cell? ⟨ga, 3, none⟩ = some (.int .i64 P) := hcb.cell 3)
              | (go_at_call 51; refine (cU.out _ (by first | exact Fr.refl _ _ | assumption)).mono ?_; rintro e w5 ⟨rfl, h5⟩; have h5' := h5.symm; subst h5'))
          refine (cT.out _).mono ?_
          rintro e w5 ⟨rfl, h5⟩
          have h5' := h5.symm
          subst h5'
          go_wp2_with fail
          refine (cN.out _).mono ?_
          rintro e w5 ⟨rfl, h5⟩
          have h5' := h5.symm
          subst h5'
          go_wp2_with fail
          refine (cX.out _).mono ?_
          rintro e w5 ⟨rfl, h5⟩
          have h5' := h5.symm
          subst h5'
          go_wp2_with fail
          all_goals
            go_ret
            exact ⟨rfl, frb⟩
        | false =>
          cases H with
          | true =>
            rw [Bool.not_true, Bool.false_and, Bool.and_false, Bool.and_false, Bool.and_false]
            go_enter Tryd.func45, Tryd.ntmps45
            go_wp2_with (first
                | (refine wp_alloc 37 rfl rfl _ zeroN _ rfl ?_; intro wa ga hga hca fa)
                | (refine wp_storeC 37 rfl _ _ rfl ga _ (ndC 6 NM VL P) rfl rfl hca infoN rfl (ndC_one _ _ _ _) ?_; intro wb hcb fb; have frb : Fr [] w wb := (fa).then fb (fun j hj hm => (by simp at hm; omega)); have n0 : wb.cell? ⟨ga, 0, none⟩ = some (.int .u8 ((6 : Nat) : Int)) := hcb.cell 0; have n1 : wb.cell? ⟨ga, 1, none⟩ = some (.string NM) := hcb.cell 1; have n2 : wb.cell? ⟨ga, 2, none⟩ = some (.string VL) := hcb.cell 2; have n3 : wb.cell? ⟨ga, 3, none⟩ = some (.int .i64 P) := hcb.cell 3)
                | (go_at_call 51; refine (cU.out _ (by first | exact Fr.refl _ _ | assumption)).mono ?_; rintro e w5 ⟨rfl, h5⟩; have h5' := h5.symm; subst h5'))
            refine (cT.out _).mono ?_
            rintro e w5 ⟨rfl, h5⟩
            have h5' := h5.symm
            subst h5'
            go_wp2_with fail
            refine (cN.out _).mono ?_
            rintro e w5 ⟨rfl, h5⟩
            have h5' := h5.symm
            subst h5'
            go_wp2_with fail
            refine (cX.out _).mono ?_
            rintro e w5 ⟨rfl, h5⟩
            have h5' := h5.symm
            subst h5'
            go_wp2_with fail
            refine (cH.out _).mono ?_
            rintro e w5 ⟨rfl, h5⟩
            have h5' := h5.symm
            subst h5'
            go_wp2_with fail
            all_goals
              go_ret
              exact ⟨rfl, frb⟩
          | false =>
            have hz' : (1 : Int) ≤ (VL.size : Int) := by omega
            have hix := run_head VL 1 1 rfl hz
            cases BB
            all_goals
              go_enter Tryd.func45, Tryd.ntmps45
              go_wp2_with (first
                  | (refine wp_alloc 37 rfl rfl _ zeroN _ rfl ?_; intro wa ga hga hca fa)
                  | (refine wp_storeC 37 rfl _ _ rfl ga _ (ndC 6 NM VL P) rfl rfl hca infoN rfl (ndC_one _ _ _ _) ?_; intro wb hcb fb; have frb : Fr [] w wb := (fa).then fb (fun j hj hm => (by simp at hm; omega)); have n0 : wb.cell? ⟨ga, 0, none⟩ = some (.int .u8 ((6 : Nat) : Int)) := hcb.cell 0; have n1 : wb.cell? ⟨ga, 1, none⟩ = some (.string NM) := hcb.cell 1; have n2 : wb.cell? ⟨ga, 2, none⟩ = some (.string VL) := hcb.cell 2; have n3 : wb.cell? ⟨ga, 3, none⟩ = some (.int .i64 P) := hcb.cell 3)
                  | (go_at_call 51; refine (cU.out _ (by first | exact Fr.refl _ _ | assumption)).mono ?_; rintro e w5 ⟨rfl, h5⟩; have h5' := h5.symm; subst h5'))
              refine (cT.out _).mono ?_
              rintro e w5 ⟨rfl, h5⟩
              have h5' := h5.symm
              subst h5'
              go_wp2_with fail
              refine (cN.out _).mono ?_
              rintro e w5 ⟨rfl, h5⟩
              have h5' := h5.symm
              subst h5'
              go_wp2_with fail
              refine (cX.out _).mono ?_
              rintro e w5 ⟨rfl, h5⟩
              have h5' := h5.symm
              subst h5'
              go_wp2_with fail
              refine (cH.out _).mono ?_
              rintro e w5 ⟨rfl, h5⟩
              have h5' := h5.symm
              subst h5'
              go_wp2_with fail
              refine (cB.out _).mono ?_
              rintro e w5 ⟨rfl, h5⟩
              have h5' := h5.symm
              subst h5'
              go_wp2_with fail
              all_goals
                go_ret
                exact ⟨rfl, frb⟩
  · have u0 : ((U : Int) == 0) = false := by rw [beq_eq_false_iff_ne]; omega
    have u2 : ((U : Int) == 2) = false := by rw [beq_eq_false_iff_ne]; omega
    have u1 : ((U : Int) == 1) = false := by rw [beq_eq_false_iff_ne]; omega
    rw [u0, u1, u2]
    rw [show (false || (false || false)) = false from rfl, Bool.false_and]
    go_enter Tryd.func45, Tryd.ntmps45
    go_wp2_with (first
        | (refine wp_alloc 37 rfl rfl _ zeroN _ rfl ?_; intro wa ga hga hca fa)
        | (refine wp_storeC 37 rfl _ _ rfl ga _ (ndC 6 NM VL P) rfl rfl hca infoN rfl (ndC_one _ _ _ _) ?_; intro wb hcb fb; have frb : Fr [] w wb := (fa).then fb (fun j hj hm => (by simp at hm; omega)); have n0 : wb.cell? ⟨ga, 0, none⟩ = some (.int .u8 ((6 : Nat) : Int)) := hcb.cell 0; have n1 : wb.cell? ⟨ga, 1, none⟩ = some (.string NM) := hcb.cell 1; have n2 : wb.cell? ⟨ga, 2, none⟩ = some (.string VL) := hcb.cell 2; have n3 : wb.cell? ⟨ga, 3, none⟩ = some (.int .i64 P) := hcb.cell 3)
        | (go_at_call 51; refine (cU.out _ (by first | exact Fr.refl _ _ | assumption)).mono ?_; rintro e w5 ⟨rfl, h5⟩; have h5' := h5.symm; subst h5'))
    refine (cT.out _).mono ?_
    rintro e w5 ⟨rfl, h5⟩
    have h5' := h5.symm
    subst h5'
    go_wp2_with fail
    all_goals
      go_ret
      exact ⟨rfl, frb⟩
end Go.Proofs.YtjdcfaaoicnajaaDoor

set_option linter.unusedSimpArgs false
namespace Go.Proofs.YtjdcfaaoicnajaaDoor
open Go.RowKit Go.Maps Go.Lib

theorem fit1 {t : List Nd} {i : Nat} (h : knd t i = 1) : Fit t i ↔ valOk t i ∧ i = 0 ∧ (nam t i).size = 0 ∧ (vlu t i).size = 0 := by
  constructor
  · rintro ⟨v, f | f | f | f | f | f⟩ <;> first | exact ⟨v, f.2⟩ | (exfalso; have := f.1; omega)
  · rintro ⟨v, f⟩; exact ⟨v, Or.inl ⟨h, f⟩⟩
theorem fit2 {t : List Nd} {i : Nat} (h : knd t i = 2) : Fit t i ↔ valOk t i ∧ inside t i ∧ nameB (bl (nam t i)) = true ∧ (vlu t i).size = 0 := by
  constructor
  · rintro ⟨v, f | f | f | f | f | f⟩ <;> first | exact ⟨v, f.2⟩ | (exfalso; have := f.1; omega)
  · rintro ⟨v, f⟩; exact ⟨v, Or.inr (Or.inl ⟨h, f⟩)⟩
theorem fit3 {t : List Nd} {i : Nat} (h : knd t i = 3) : Fit t i ↔ valOk t i ∧ (0 ≤ par t i ∧ knd t (par t i).toNat = 2) ∧ nameB (bl (nam t i)) = true ∧ AttrP t i (par t i) := by
  constructor
  · rintro ⟨v, f | f | f | f | f | f⟩ <;> first | exact ⟨v, f.2⟩ | (exfalso; have := f.1; omega)
  · rintro ⟨v, f⟩; exact ⟨v, Or.inr (Or.inr (Or.inl ⟨h, f⟩))⟩
theorem fit4 {t : List Nd} {i : Nat} (h : knd t i = 4) : Fit t i ↔ valOk t i ∧ (par t i < 0 ∨ knd t (par t i).toNat = 2) ∧ (nam t i).size = 0 ∧ (vlu t i).size ≠ 0 ∧ ¬ txtBeside t i := by
  constructor
  · rintro ⟨v, f | f | f | f | f | f⟩ <;> first | exact ⟨v, f.2⟩ | (exfalso; have := f.1; omega)
  · rintro ⟨v, f⟩; exact ⟨v, Or.inr (Or.inr (Or.inr (Or.inl ⟨h, f⟩)))⟩
theorem fit5 {t : List Nd} {i : Nat} (h : knd t i = 5) : Fit t i ↔ valOk t i ∧ inside t i ∧ (nam t i).size = 0 ∧ has2 45 45 (bl (vlu t i)) = false ∧ (bl (vlu t i)).getLast? ≠ some 45 := by
  constructor
  · rintro ⟨v, f | f | f | f | f | f⟩ <;> first | exact ⟨v, f.2⟩ | (exfalso; have := f.1; omega)
  · rintro ⟨v, f⟩; exact ⟨v, Or.inr (Or.inr (Or.inr (Or.inr (Or.inl ⟨h, f⟩))))⟩
theorem fit6 {t : List Nd} {i : Nat} (h : knd t i = 6) : Fit t i ↔ valOk t i ∧ inside t i ∧ (nameB (bl (nam t i)) = true ∧ xmlB (bl (nam t i)) = false) ∧ has2 63 62 (bl (vlu t i)) = false ∧ ((vlu t i).size = 0 ∨ blankB ((bl (vlu t i)).take 1) = false) := by
  constructor
  · rintro ⟨v, f | f | f | f | f | f⟩ <;> first | exact ⟨v, f.2⟩ | (exfalso; have := f.1; omega)
  · rintro ⟨v, f⟩; exact ⟨v, Or.inr (Or.inr (Or.inr (Or.inr (Or.inr ⟨h, f⟩))))⟩
theorem empty_iff (s : ByteArray) : s.toList.isEmpty = true ↔ s.size = 0 := by
  rw [toList_eq, List.isEmpty_iff, ← List.length_eq_zero_iff, bl_length]
theorem insI_iff {t : List Nd} {i : Nat} (h : Upto t i) (o : Ord t i) : ((((upK t i : Nat) : Int) == 0) || ((((upK t i : Nat) : Int) == 2) || (((upK t i : Nat) : Int) == 1))) = true ↔ inside t i := by
  rw [← inside_iff h o, Bool.or_eq_true, Bool.or_eq_true, beq_iff_eq, beq_iff_eq, beq_iff_eq]
  omega
theorem insT_iff {t : List Nd} {i : Nat} (h : Upto t i) (o : Ord t i) : ((((upK t i : Nat) : Int) == 0) || (((upK t i : Nat) : Int) == 2)) = true ↔ (par t i < 0 ∨ knd t (par t i).toNat = 2) := by
  rw [Bool.or_eq_true, beq_iff_eq, beq_iff_eq]
  have h0 := upK_zero h o
  have h2 := upK_some (t := t) (i := i) (k := 2) (by decide)
  constructor
  · rintro (e | e)
    · exact Or.inl (h0.1 (by omega))
    · exact Or.inr (h2.1 (by omega)).2
  · intro e
    by_cases c : par t i < 0
    · left; have := h0.2 c; omega
    · right
      have := h2.2 ⟨by omega, by omega⟩
      omega
theorem last_iff (s : ByteArray) (h : 1 ≤ s.size) (X : Nat) (hX : (byteAt (bl s) (s.size - 1)).toNat = X) : (((X : Int) != 45) = true) ↔ (bl s).getLast? ≠ some 45 := by
  have hl : (bl s).length = s.size := bl_length s
  have e : (bl s).getLast? = some (byteAt (bl s) (s.size - 1)) := by
    rw [List.getLast?_eq_getElem?, hl]
    unfold byteAt
    rw [List.getElem?_eq_getElem (by omega)]
    simp [List.getD, show s.size - 1 < (bl s).length by omega]
  rw [e, bne_iff_ne]
  constructor
  · intro hn h45
    have : byteAt (bl s) (s.size - 1) = 45 := Option.some.inj h45
    rw [this] at hX
    apply hn
    rw [← hX]
    rfl
  · intro hn h45
    apply hn
    congr 1
    rw [← UInt8.toNat_inj, hX]
    show X = 45
    omega
theorem last_ex (Q : Nat → Prop) : ∀ n, (∃ j, j < n ∧ Q j) → ∃ j, j < n ∧ Q j ∧ ∀ k, j < k → k < n → ¬ Q k
  | 0, h => by obtain ⟨j, hj, _⟩ := h; omega
  | n + 1, h => by
    by_cases q : Q n
    · exact ⟨n, by omega, q, fun k h1 h2 => by omega⟩
    · obtain ⟨j, hj, hq⟩ := h
      have hjn : j < n := by
        have : j ≠ n := fun e => q (e ▸ hq)
        omega
      obtain ⟨j', h1, h2, h3⟩ := last_ex Q n ⟨j, hjn, hq⟩
      refine ⟨j', by omega, h2, fun k k1 k2 => ?_⟩
      by_cases e : k = n
      · subst e; exact q
      · exact h3 k k1 (by omega)
theorem sib_ex (t : List Nd) (i : Nat) : ∃ s : Int, SibIs t i s ∧ -1 ≤ s ∧ s < (i : Int) := by
  by_cases hE : ∃ j, j < i ∧ (par t i < (j : Int) ∧ par t j = par t i ∧ knd t j ≠ 3)
  · obtain ⟨j, h1, h2, h3⟩ := last_ex (fun j => par t i < (j : Int) ∧ par t j = par t i ∧ knd t j ≠ 3) i hE
    refine ⟨(j : Int), ⟨fun _ => ⟨h2.1, by omega, by rw [Int.toNat_natCast]; exact h2.2.1, by rw [Int.toNat_natCast]; exact h2.2.2⟩, fun k k1 k2 k3 q => h3 k (by omega) k3 ⟨k2, q⟩⟩, by omega, by omega⟩
  · exact ⟨-1, ⟨fun h => by omega, fun k k1 k2 k3 q => hE ⟨k, k3, k2, q⟩⟩, by omega, by omega⟩
theorem sib_one {t : List Nd} {i : Nat} {s s' : Int} (S : SibIs t i s) (S' : SibIs t i s') (h1 : -1 ≤ s) (h1' : -1 ≤ s') (h2 : s < (i : Int)) (h2' : s' < (i : Int)) : s' = s := by
  have key : ∀ {x y : Int}, SibIs t i x → SibIs t i y → y < (i : Int) → x < y → 0 ≤ y → False := by
    intro x y X Y hy hxy h0
    obtain ⟨a1, a2, a3, a4⟩ := Y.yes h0
    exact X.no y.toNat (by omega) (by omega) (by omega) ⟨a3, a4⟩
  by_cases e : s' = s
  · exact e
  · exfalso
    by_cases l : s < s'
    · exact key S S' h2' l (by omega)
    · exact key S' S h2 (by omega) (by omega)
theorem fitB_iff (t : List Nd) (i : Nat) : fitB t i = true ↔ Fit t i := by unfold fitB; exact decide_eq_true_iff
theorem sz_iff (n : Nat) : (!(decide ((65536 : Int) < (n : Int)))) = true ↔ n ≤ 65536 := by
  rw [Bool.not_eq_true', decide_eq_false_iff_not]; omega

theorem refFits_any (w : World) (b off c : Nat) (t : List Nd) (hN : NodesIn w b off t) (hl : t.length ≤ 16384) (hZ : Short t) (i : Nat) (hi : i < t.length) (h : Upto t i) (o : Ord t i) :
    Calls Tryd.prog 45 #[.slice (some ⟨b, off, none⟩) t.length c, .int .i64 (i : Int)] w fun e w' => e = .returned (.bool (fitB t i)) ∧ Fr [] w w' := by
  obtain ⟨c0, c1, c2, c3⟩ := hN i hi
  have cU : Hid (∀ w', Fr [] w w' → Calls Tryd.prog 51 #[.slice (some ⟨b, off, none⟩) t.length c, .int .i64 (i : Int)] w' fun e w'' => e = .returned (.int .u8 ((upK t i : Nat) : Int)) ∧ w'' = w') :=
    fun w' f => refParent_any w' b off c t (hN.kept f (by simp)) i hi o
  have cT : Hid (∀ w', Calls Tryd.prog 52 #[.string (vlu t i)] w' fun e w'' => e = .returned (.bool (textsB (bl (vlu t i)))) ∧ w'' = w') :=
    fun w' => refTexts_any w' _ (hZ i hi).2
  have cN : Hid (∀ w', Calls Tryd.prog 53 #[.string (nam t i)] w' fun e w'' => e = .returned (.bool (nameB (bl (nam t i)))) ∧ w'' = w') :=
    fun w' => refName_any w' _
  have fin : ∀ {R : Bool}, (R = true ↔ Fit t i) → ∀ {e : Ending} {w' : World}, (e = .returned (.bool R) ∧ Fr [] w w') → (e = .returned (.bool (fitB t i)) ∧ Fr [] w w') := by
    intro R hR e w' hh
    have : R = fitB t i := by rw [Bool.eq_iff_iff, hR, fitB_iff]
    rw [← this]
    exact hh
  cases hT : textsB (bl (vlu t i)) with
  | false =>
    rw [hT] at cT
    exact (fits_noT w b off c t.length i hi hl (nam t i) (vlu t i) (par t i) (upK t i) (knd t i) c0 c1 c2 c3 cU cT).mono fun e w' hh => fin (by
      constructor
      · intro h; exact absurd h (by decide)
      · intro f; have := f.1.1; rw [hT] at this; exact absurd this (by decide)) hh
  | true =>
    rw [hT] at cT
    by_cases hS : (vlu t i).size ≤ 65536
    · have hv : valOk t i := ⟨hT, hS⟩
      have hSz : ¬ (65536 : Int) < ((vlu t i).size : Int) := by omega
      have hSb : (!(decide ((65536 : Int) < ((vlu t i).size : Int)))) = true := (sz_iff _).2 hS
      by_cases k1 : knd t i = 1
      · rw [k1] at c0
        exact (fits_1 w b off c t.length i hi hl _ _ _ _ true c0 c1 c2 c3 cU cT).mono fun e w' hh => fin (by
          rw [fit1 k1, hSb, Bool.true_and, Bool.true_and, Bool.and_eq_true, Bool.and_eq_true, empty_iff, empty_iff, beq_iff_eq]
          constructor
          · rintro ⟨a1, a2, a3⟩; exact ⟨hv, by omega, a2, a3⟩
          · rintro ⟨_, a1, a2, a3⟩; exact ⟨by omega, a2, a3⟩) hh
      by_cases k2 : knd t i = 2
      · rw [k2] at c0
        exact (fits_2 w b off c t.length i hi hl _ _ _ _ true _ c0 c1 c2 c3 cU cT cN).mono fun e w' hh => fin (by
          rw [fit2 k2, hSb, Bool.true_and, Bool.true_and, Bool.and_eq_true, Bool.and_eq_true, empty_iff, insI_iff h o]
          exact ⟨fun a => ⟨hv, a⟩, fun a => a.2⟩) hh
      by_cases k3 : knd t i = 3
      · rw [k3] at c0
        have cA : Hid (∀ w', Fr [] w w' → Calls Tryd.prog 54 #[.slice (some ⟨b, off, none⟩) t.length c, .int .i64 (i : Int)] w' fun e w'' => e = .returned (.bool (attrB t i)) ∧ Fr [] w' w'') :=
          fun w' f => refAttr_any w' b off c t (hN.kept f (by simp)) hl i hi o
        exact (fits_3 w b off c t.length i hi hl _ _ _ _ true _ c0 c1 c2 c3 cU cT cA).mono fun e w' hh => fin (by
          rw [fit3 k3, hSb, Bool.true_and, Bool.true_and]
          unfold attrB apB
          rw [Bool.and_eq_true, Bool.and_eq_true, decide_eq_true_iff, decide_eq_true_iff, upK_some (by decide)]
          exact ⟨fun a => ⟨hv, a⟩, fun a => a.2⟩) hh
      by_cases k4 : knd t i = 4
      · rw [k4] at c0
        obtain ⟨s, S, s1, s2⟩ := sib_ex t i
        have sb := sib_iff h o S
        have cS : Hid (∀ w', Fr [] w w' → Calls Tryd.prog 55 #[.slice (some ⟨b, off, none⟩) t.length c, .int .i64 (i : Int)] w' fun e w'' => e = .returned (.int .i64 s) ∧ Fr [] w' w'') :=
          fun w' f => (refSib_any w' b off c t (hN.kept f (by simp)) hl i hi o).mono fun e w'' hh => by
            obtain ⟨⟨s', rfl, S', t1, t2⟩, f'⟩ := hh
            exact ⟨by rw [sib_one S S' s1 t1 s2 t2], f'⟩
        by_cases hs : s < 0
        · exact (fits_4a w b off c t.length i hi hl _ _ _ _ s hs c0 c1 c2 c3 cU cT hSz cS).mono fun e w' hh => fin (by
            rw [fit4 k4, Bool.and_eq_true, Bool.and_eq_true, Bool.and_true, empty_iff, insT_iff h o, Bool.not_eq_true', ← Bool.not_eq_true, empty_iff]
            exact ⟨fun a => ⟨hv, a.1, a.2.1, a.2.2, sb.1 (Or.inl hs)⟩, fun a => ⟨a.2.1, a.2.2.1, a.2.2.2.1⟩⟩) hh
        · obtain ⟨m, rfl⟩ : ∃ m : Nat, s = (m : Int) := ⟨s.toNat, by omega⟩
          rw [Int.toNat_natCast] at sb
          have HS : Hid (∀ w', Fr [] w w' → w'.cell? ⟨b, off + m * 4, none⟩ = some (.int .u8 ((knd t m : Nat) : Int))) := fun w' f => ((hN.kept f (by simp)) m (by omega)).1
          exact (fits_4b w b off c t.length i hi hl _ _ _ _ m (knd t m) (by omega) c0 c1 c2 c3 cU cT hSz cS HS).mono fun e w' hh => fin (by
            rw [fit4 k4, Bool.and_eq_true, Bool.and_eq_true, Bool.and_eq_true, empty_iff, insT_iff h o, Bool.not_eq_true', ← Bool.not_eq_true, empty_iff, bne_iff_ne]
            exact ⟨fun a => ⟨hv, a.1, a.2.1, a.2.2.1, sb.1 (Or.inr (by have := a.2.2.2; omega))⟩, fun a => ⟨a.2.1, a.2.2.1, a.2.2.2.1, by
              have := sb.2 a.2.2.2.2
              omega⟩⟩) hh
      by_cases k5 : knd t i = 5
      · rw [k5] at c0
        have cH : Hid (∀ w', Calls Tryd.prog 56 #[.string (vlu t i), .string ⟨#[45, 45]⟩] w' fun e w'' => e = .returned (.bool (has2 45 45 (bl (vlu t i)))) ∧ w'' = w') :=
          fun w' => refHas_any w' _ 45 45 (hZ i hi).2
        cases hE : (vlu t i).toList.isEmpty with
        | true =>
          exact (fits_5a w b off c t.length i hi hl _ _ _ _ _ hE c0 c1 c2 c3 cU cT hSz cH).mono fun e w' hh => fin (by
            have hl0 : bl (vlu t i) = [] := bl_nil_of ((empty_iff _).1 hE)
            rw [fit5 k5, Bool.and_eq_true, Bool.and_eq_true, Bool.and_true, empty_iff, insI_iff h o, Bool.not_eq_true', hl0]
            exact ⟨fun a => ⟨hv, a.1, a.2.1, a.2.2, by simp⟩, fun a => ⟨a.2.1, a.2.2.1, a.2.2.2.1⟩⟩) hh
        | false =>
          have hz : 1 ≤ (vlu t i).size := by
            have : ¬ (vlu t i).size = 0 := fun e => by rw [(empty_iff _).2 e] at hE; exact absurd hE (by decide)
            omega
          exact (fits_5b w b off c t.length i hi hl _ _ _ _ _ _ hE hz c0 c1 c2 c3 cU cT hSz cH (Hid.mk rfl)).mono fun e w' hh => fin (by
            rw [fit5 k5, Bool.and_eq_true, Bool.and_eq_true, Bool.and_eq_true, empty_iff, insI_iff h o, Bool.not_eq_true', last_iff _ hz _ rfl]
            exact ⟨fun a => ⟨hv, a⟩, fun a => a.2⟩) hh
      by_cases k6 : knd t i = 6
      · rw [k6] at c0
        have cH : Hid (∀ w', Calls Tryd.prog 56 #[.string (vlu t i), .string ⟨#[63, 62]⟩] w' fun e w'' => e = .returned (.bool (has2 63 62 (bl (vlu t i)))) ∧ w'' = w') :=
          fun w' => refHas_any w' _ 63 62 (hZ i hi).2
        have cX : Hid (∀ w', Calls Tryd.prog 57 #[.string (nam t i)] w' fun e w'' => e = .returned (.bool (xmlB (bl (nam t i)))) ∧ w'' = w') :=
          fun w' => refXml_any w' _
        have cB : Hid (∀ w', Calls Tryd.prog 58 #[.string (mkS ((bl (vlu t i)).take 1))] w' fun e w'' => e = .returned (.bool (blankB ((bl (vlu t i)).take 1))) ∧ w'' = w') :=
          fun w' => refBlank_any w' _ (by show (List.take 1 (bl (vlu t i))).toArray.size < _; simp; omega)
        cases hE : (vlu t i).toList.isEmpty with
        | true =>
          exact (fits_6a w b off c t.length i hi hl _ _ _ _ _ _ _ hE c0 c1 c2 c3 cU cT hSz cN cX cH).mono fun e w' hh => fin (by
            have h0 := (empty_iff _).1 hE
            rw [fit6 k6, Bool.and_eq_true, Bool.and_eq_true, Bool.and_eq_true, Bool.and_true, insI_iff h o, Bool.not_eq_true', Bool.not_eq_true']
            exact ⟨fun a => ⟨hv, a.1, ⟨a.2.1, a.2.2.1⟩, a.2.2.2, Or.inl h0⟩, fun a => ⟨a.2.1, a.2.2.1.1, a.2.2.1.2, a.2.2.2.1⟩⟩) hh
        | false =>
          have hz : 1 ≤ (vlu t i).size := by
            have : ¬ (vlu t i).size = 0 := fun e => by rw [(empty_iff _).2 e] at hE; exact absurd hE (by decide)
            omega
          exact (fits_6b w b off c t.length i hi hl _ _ _ _ _ _ _ _ hE hz c0 c1 c2 c3 cU cT hSz cN cX cH cB).mono fun e w' hh => fin (by
            rw [fit6 k6, Bool.and_eq_true, Bool.and_eq_true, Bool.and_eq_true, Bool.and_eq_true, insI_iff h o, Bool.not_eq_true', Bool.not_eq_true', Bool.not_eq_true']
            exact ⟨fun a => ⟨hv, a.1, ⟨a.2.1, a.2.2.1⟩, a.2.2.2.1, Or.inr a.2.2.2.2⟩, fun a => ⟨a.2.1, a.2.2.1.1, a.2.2.1.2, a.2.2.2.1, a.2.2.2.2.resolve_left (by omega)⟩⟩) hh
      · exact (fits_0 w b off c t.length i hi hl _ _ _ _ true (knd t i) (by rw [beq_eq_false_iff_ne]; omega) (by rw [beq_eq_false_iff_ne]; omega) (by rw [beq_eq_false_iff_ne]; omega) (by rw [beq_eq_false_iff_ne]; omega) (by rw [beq_eq_false_iff_ne]; omega) (by rw [beq_eq_false_iff_ne]; omega) c0 c1 c2 c3 cU cT).mono fun e w' hh => fin (by
          rw [Bool.and_false, Bool.and_false]
          constructor
          · intro h; exact absurd h (by decide)
          · intro f; have := fit_kind f; omega) hh
    · have hSz : (65536 : Int) < ((vlu t i).size : Int) := by omega
      exact (fits_big w b off c t.length i hi hl _ _ _ _ (knd t i) hSz c0 c1 c2 c3 cU cT).mono fun e w' hh => fin (by
        constructor
        · intro h; exact absurd h (by decide)
        · intro f; exact absurd f.1.2 hS) hh
end Go.Proofs.YtjdcfaaoicnajaaDoor

