/-
  The document's own answer: does a node fit?
-/
import Derived.Test.YtdfgmdddnehocaaGreatDoorXRefA
set_option linter.unusedVariables false
set_option linter.unusedSimpArgs false
namespace Go.Proofs.YtdfgmdddnehocaaGreatDoor
open Go.RowKit Go.Maps Go.Lib

set_option maxHeartbeats 8000000 in
set_option maxRecDepth 100000 in
theorem fits_5a (w : World) (b off c n : Nat) (i : Nat) (hi : i < n) (hl : n ≤ 16384) (NM VL : ByteArray) (P : Int) (U : Nat) (H : Bool) (h0 : VL.toList.isEmpty = true)
    (c0 : w.cell? ⟨b, off + i * 4, none⟩ = some (.int .u8 ((5 : Nat) : Int))) (c1 : w.cell? ⟨b, off + i * 4 + 1, none⟩ = some (.string NM)) (c2 : w.cell? ⟨b, off + i * 4 + 2, none⟩ = some (.string VL)) (c3 : w.cell? ⟨b, off + i * 4 + 3, none⟩ = some (.int .i64 P))
    (cU : Hid (∀ w', Fr [] w w' → Calls Tryz.prog 71 #[.slice (some ⟨b, off, none⟩) n c, .int .i64 (i : Int)] w' fun e w'' => e = .returned (.int .u8 (U : Int)) ∧ w'' = w'))
    (cT : Hid (∀ w', Calls Tryz.prog 72 #[.string VL] w' fun e w'' => e = .returned (.bool true) ∧ w'' = w'))
    (hSz : ¬ (65536 : Int) < (VL.size : Int))
    (cH : Hid (∀ w', Calls Tryz.prog 76 #[.string VL, .string ⟨#[45, 45]⟩] w' fun e w'' => e = .returned (.bool H) ∧ w'' = w'))
    : Calls Tryz.prog 61 #[.slice (some ⟨b, off, none⟩) n c, .int .i64 (i : Int)] w fun e w' => e = .returned (.bool ((((U : Int) == 0) || (((U : Int) == 2) || ((U : Int) == 1))) && (NM.toList.isEmpty && (!H && true)))) ∧ Fr [] w w' := by
  have hi' : (i : Int) < (n : Int) := by omega
  have hi0 : (0 : Int) ≤ (i : Int) := by omega
  by_cases hU : U = 0 ∨ U = 2 ∨ U = 1
  · rcases hU with rfl | rfl | rfl
    all_goals
      cases hNE : NM.toList.isEmpty with
      | false =>
        rw [show (false && (!H && true)) = false from rfl, Bool.and_false]
        go_enter Tryz.func61, Tryz.ntmps61
        go_wp2_with (first
            | (refine wp_alloc 41 rfl rfl _ zeroN _ rfl ?_; intro wa ga hga hca fa)
            | (refine wp_storeC 41 rfl _ _ rfl ga _ (ndC 5 NM VL P) rfl rfl hca infoN rfl (ndC_one _ _ _ _) ?_; intro wb hcb fb; have frb : Fr [] w wb := (fa).then fb (fun j hj hm => (by simp at hm; omega)); have n0 : wb.cell? ⟨ga, 0, none⟩ = some (.int .u8 ((5 : Nat) : Int)) := hcb.cell 0; have n1 : wb.cell? ⟨ga, 1, none⟩ = some (.string NM) := hcb.cell 1; have n2 : wb.cell? ⟨ga, 2, none⟩ = some (.string VL) := hcb.cell 2; have n3 : wb.cell? ⟨ga, 3, none⟩ = some (.int .i64 P) := hcb.cell 3)
            | (go_at_call 71; refine (cU.out _ (by first | exact Fr.refl _ _ | assumption)).mono ?_; rintro e w5 ⟨rfl, h5⟩; have h5' := h5.symm; subst h5'))
        refine (cT.out _).mono ?_
        rintro e w5 ⟨rfl, h5⟩
        have h5' := h5.symm
        subst h5'
        go_wp2_with fail
        all_goals
          go_ret
          exact ⟨rfl, frb⟩
      | true =>
        cases H with
        | true =>
          rw [show ((!true) && true) = false from rfl, Bool.and_false, Bool.and_false]
          go_enter Tryz.func61, Tryz.ntmps61
          go_wp2_with (first
              | (refine wp_alloc 41 rfl rfl _ zeroN _ rfl ?_; intro wa ga hga hca fa)
              | (refine wp_storeC 41 rfl _ _ rfl ga _ (ndC 5 NM VL P) rfl rfl hca infoN rfl (ndC_one _ _ _ _) ?_; intro wb hcb fb; have frb : Fr [] w wb := (fa).then fb (fun j hj hm => (by simp at hm; omega)); have n0 : wb.cell? ⟨ga, 0, none⟩ = some (.int .u8 ((5 : Nat) : Int)) := hcb.cell 0; have n1 : wb.cell? ⟨ga, 1, none⟩ = some (.string NM) := hcb.cell 1; have n2 : wb.cell? ⟨ga, 2, none⟩ = some (.string VL) := hcb.cell 2; have n3 : wb.cell? ⟨ga, 3, none⟩ = some (.int .i64 P) := hcb.cell 3)
              | (go_at_call 71; refine (cU.out _ (by first | exact Fr.refl _ _ | assumption)).mono ?_; rintro e w5 ⟨rfl, h5⟩; have h5' := h5.symm; subst h5'))
          refine (cT.out _).mono ?_
          rintro e w5 ⟨rfl, h5⟩
          have h5' := h5.symm
          subst h5'
          go_wp2_with fail
          refine (cH.out _).mono ?_
          rintro e w5 ⟨rfl, h5⟩
          have h5' := h5.symm
          subst h5'
          go_wp2_with fail
          all_goals
            go_ret
            exact ⟨rfl, frb⟩
        | false =>
          go_enter Tryz.func61, Tryz.ntmps61
          go_wp2_with (first
              | (refine wp_alloc 41 rfl rfl _ zeroN _ rfl ?_; intro wa ga hga hca fa)
              | (refine wp_storeC 41 rfl _ _ rfl ga _ (ndC 5 NM VL P) rfl rfl hca infoN rfl (ndC_one _ _ _ _) ?_; intro wb hcb fb; have frb : Fr [] w wb := (fa).then fb (fun j hj hm => (by simp at hm; omega)); have n0 : wb.cell? ⟨ga, 0, none⟩ = some (.int .u8 ((5 : Nat) : Int)) := hcb.cell 0; have n1 : wb.cell? ⟨ga, 1, none⟩ = some (.string NM) := hcb.cell 1; have n2 : wb.cell? ⟨ga, 2, none⟩ = some (.string VL) := hcb.cell 2; have n3 : wb.cell? ⟨ga, 3, none⟩ = some (.int .i64 P) := hcb.cell 3)
              | (go_at_call 71; refine (cU.out _ (by first | exact Fr.refl _ _ | assumption)).mono ?_; rintro e w5 ⟨rfl, h5⟩; have h5' := h5.symm; subst h5'))
          refine (cT.out _).mono ?_
          rintro e w5 ⟨rfl, h5⟩
          have h5' := h5.symm
          subst h5'
          go_wp2_with fail
          refine (cH.out _).mono ?_
          rintro e w5 ⟨rfl, h5⟩
          have h5' := h5.symm
          subst h5'
          go_wp2_with fail
          all_goals
            go_ret
            exact ⟨rfl, frb⟩
  · have u0 : ((U : Int) == 0) = false := by rw [beq_eq_false_iff_ne]; omega
    have u2 : ((U : Int) == 2) = false := by rw [beq_eq_false_iff_ne]; omega
    have u1 : ((U : Int) == 1) = false := by rw [beq_eq_false_iff_ne]; omega
    rw [u0, u1, u2]
    rw [show (false || (false || false)) = false from rfl, Bool.false_and]
    go_enter Tryz.func61, Tryz.ntmps61
    go_wp2_with (first
        | (refine wp_alloc 41 rfl rfl _ zeroN _ rfl ?_; intro wa ga hga hca fa)
        | (refine wp_storeC 41 rfl _ _ rfl ga _ (ndC 5 NM VL P) rfl rfl hca infoN rfl (ndC_one _ _ _ _) ?_; intro wb hcb fb; have frb : Fr [] w wb := (fa).then fb (fun j hj hm => (by simp at hm; omega)); have n0 : wb.cell? ⟨ga, 0, none⟩ = some (.int .u8 ((5 : Nat) : Int)) := hcb.cell 0; have n1 : wb.cell? ⟨ga, 1, none⟩ = some (.string NM) := hcb.cell 1; have n2 : wb.cell? ⟨ga, 2, none⟩ = some (.string VL) := hcb.cell 2; have n3 : wb.cell? ⟨ga, 3, none⟩ = some (.int .i64 P) := hcb.cell 3)
        | (go_at_call 71; refine (cU.out _ (by first | exact Fr.refl _ _ | assumption)).mono ?_; rintro e w5 ⟨rfl, h5⟩; have h5' := h5.symm; subst h5'))
    refine (cT.out _).mono ?_
    rintro e w5 ⟨rfl, h5⟩
    have h5' := h5.symm
    subst h5'
    go_wp2_with fail
    all_goals
      go_ret
      exact ⟨rfl, frb⟩
end Go.Proofs.YtdfgmdddnehocaaGreatDoor

set_option linter.unusedVariables false
set_option linter.unusedSimpArgs false
namespace Go.Proofs.YtdfgmdddnehocaaGreatDoor
open Go.RowKit Go.Maps Go.Lib

set_option maxHeartbeats 8000000 in
set_option maxRecDepth 100000 in
theorem fits_5b (w : World) (b off c n : Nat) (i : Nat) (hi : i < n) (hl : n ≤ 16384) (NM VL : ByteArray) (P : Int) (U : Nat) (H : Bool) (X : Nat) (h0 : VL.toList.isEmpty = false) (hz : 1 ≤ VL.size)
    (c0 : w.cell? ⟨b, off + i * 4, none⟩ = some (.int .u8 ((5 : Nat) : Int))) (c1 : w.cell? ⟨b, off + i * 4 + 1, none⟩ = some (.string NM)) (c2 : w.cell? ⟨b, off + i * 4 + 2, none⟩ = some (.string VL)) (c3 : w.cell? ⟨b, off + i * 4 + 3, none⟩ = some (.int .i64 P))
    (cU : Hid (∀ w', Fr [] w w' → Calls Tryz.prog 71 #[.slice (some ⟨b, off, none⟩) n c, .int .i64 (i : Int)] w' fun e w'' => e = .returned (.int .u8 (U : Int)) ∧ w'' = w'))
    (cT : Hid (∀ w', Calls Tryz.prog 72 #[.string VL] w' fun e w'' => e = .returned (.bool true) ∧ w'' = w'))
    (hSz : ¬ (65536 : Int) < (VL.size : Int))
    (cH : Hid (∀ w', Calls Tryz.prog 76 #[.string VL, .string ⟨#[45, 45]⟩] w' fun e w'' => e = .returned (.bool H) ∧ w'' = w'))
    (hX : Hid ((byteAt (bl VL) (VL.size - 1)).toNat = X))
    : Calls Tryz.prog 61 #[.slice (some ⟨b, off, none⟩) n c, .int .i64 (i : Int)] w fun e w' => e = .returned (.bool ((((U : Int) == 0) || (((U : Int) == 2) || ((U : Int) == 1))) && (NM.toList.isEmpty && (!H && ((X : Int) != 45))))) ∧ Fr [] w w' := by
  have hi' : (i : Int) < (n : Int) := by omega
  have hi0 : (0 : Int) ≤ (i : Int) := by omega
  by_cases hU : U = 0 ∨ U = 2 ∨ U = 1
  · rcases hU with rfl | rfl | rfl
    all_goals
      cases hNE : NM.toList.isEmpty with
      | false =>
        rw [show (false && (!H && ((X : Int) != 45))) = false from rfl, Bool.and_false]
        go_enter Tryz.func61, Tryz.ntmps61
        go_wp2_with (first
            | (refine wp_alloc 41 rfl rfl _ zeroN _ rfl ?_; intro wa ga hga hca fa)
            | (refine wp_storeC 41 rfl _ _ rfl ga _ (ndC 5 NM VL P) rfl rfl hca infoN rfl (ndC_one _ _ _ _) ?_; intro wb hcb fb; have frb : Fr [] w wb := (fa).then fb (fun j hj hm => (by simp at hm; omega)); have n0 : wb.cell? ⟨ga, 0, none⟩ = some (.int .u8 ((5 : Nat) : Int)) := hcb.cell 0; have n1 : wb.cell? ⟨ga, 1, none⟩ = some (.string NM) := hcb.cell 1; have n2 : wb.cell? ⟨ga, 2, none⟩ = some (.string VL) := hcb.cell 2; have n3 : wb.cell? ⟨ga, 3, none⟩ = some (.int .i64 P) := hcb.cell 3)
            | (go_at_call 71; refine (cU.out _ (by first | exact Fr.refl _ _ | assumption)).mono ?_; rintro e w5 ⟨rfl, h5⟩; have h5' := h5.symm; subst h5'))
        refine (cT.out _).mono ?_
        rintro e w5 ⟨rfl, h5⟩
        have h5' := h5.symm
        subst h5'
        go_wp2_with fail
        all_goals
          go_ret
          exact ⟨rfl, frb⟩
      | true =>
        cases H with
        | true =>
          rw [show ((!true) && ((X : Int) != 45)) = false from rfl, Bool.and_false, Bool.and_false]
          go_enter Tryz.func61, Tryz.ntmps61
          go_wp2_with (first
              | (refine wp_alloc 41 rfl rfl _ zeroN _ rfl ?_; intro wa ga hga hca fa)
              | (refine wp_storeC 41 rfl _ _ rfl ga _ (ndC 5 NM VL P) rfl rfl hca infoN rfl (ndC_one _ _ _ _) ?_; intro wb hcb fb; have frb : Fr [] w wb := (fa).then fb (fun j hj hm => (by simp at hm; omega)); have n0 : wb.cell? ⟨ga, 0, none⟩ = some (.int .u8 ((5 : Nat) : Int)) := hcb.cell 0; have n1 : wb.cell? ⟨ga, 1, none⟩ = some (.string NM) := hcb.cell 1; have n2 : wb.cell? ⟨ga, 2, none⟩ = some (.string VL) := hcb.cell 2; have n3 : wb.cell? ⟨ga, 3, none⟩ = some (.int .i64 P) := hcb.cell 3)
              | (go_at_call 71; refine (cU.out _ (by first | exact Fr.refl _ _ | assumption)).mono ?_; rintro e w5 ⟨rfl, h5⟩; have h5' := h5.symm; subst h5'))
          refine (cT.out _).mono ?_
          rintro e w5 ⟨rfl, h5⟩
          have h5' := h5.symm
          subst h5'
          go_wp2_with fail
          refine (cH.out _).mono ?_
          rintro e w5 ⟨rfl, h5⟩
          have h5' := h5.symm
          subst h5'
          go_wp2_with fail
          all_goals
            go_ret
            exact ⟨rfl, frb⟩
        | false =>
          have hz' : (1 : Int) ≤ (VL.size : Int) := by omega
          have hix := run_idx VL ((VL.size : Int) - 1) (VL.size - 1) (by omega) (by omega)
          rw [hX.out] at hix
          by_cases hX4 : X = 45
          · subst hX4
            go_enter Tryz.func61, Tryz.ntmps61
            go_wp2_with (first
                | (refine wp_alloc 41 rfl rfl _ zeroN _ rfl ?_; intro wa ga hga hca fa)
                | (refine wp_storeC 41 rfl _ _ rfl ga _ (ndC 5 NM VL P) rfl rfl hca infoN rfl (ndC_one _ _ _ _) ?_; intro wb hcb fb; have frb : Fr [] w wb := (fa).then fb (fun j hj hm => (by simp at hm; omega)); have n0 : wb.cell? ⟨ga, 0, none⟩ = some (.int .u8 ((5 : Nat) : Int)) := hcb.cell 0; have n1 : wb.cell? ⟨ga, 1, none⟩ = some (.string NM) := hcb.cell 1; have n2 : wb.cell? ⟨ga, 2, none⟩ = some (.string VL) := hcb.cell 2; have n3 : wb.cell? ⟨ga, 3, none⟩ = some (.int .i64 P) := hcb.cell 3)
                | (go_at_call 71; refine (cU.out _ (by first | exact Fr.refl _ _ | assumption)).mono ?_; rintro e w5 ⟨rfl, h5⟩; have h5' := h5.symm; subst h5'))
            refine (cT.out _).mono ?_
            rintro e w5 ⟨rfl, h5⟩
            have h5' := h5.symm
            subst h5'
            go_wp2_with fail
            refine (cH.out _).mono ?_
            rintro e w5 ⟨rfl, h5⟩
            have h5' := h5.symm
            subst h5'
            go_wp2_with fail
            all_goals
              go_ret
              exact ⟨rfl, frb⟩
          · have hX5 : ((X : Int) != 45) = true := by rw [bne_iff_ne]; omega
            rw [hX5]
            go_enter Tryz.func61, Tryz.ntmps61
            go_wp2_with (first
                | (refine wp_alloc 41 rfl rfl _ zeroN _ rfl ?_; intro wa ga hga hca fa)
                | (refine wp_storeC 41 rfl _ _ rfl ga _ (ndC 5 NM VL P) rfl rfl hca infoN rfl (ndC_one _ _ _ _) ?_; intro wb hcb fb; have frb : Fr [] w wb := (fa).then fb (fun j hj hm => (by simp at hm; omega)); have n0 : wb.cell? ⟨ga, 0, none⟩ = some (.int .u8 ((5 : Nat) : Int)) := hcb.cell 0; have n1 : wb.cell? ⟨ga, 1, none⟩ = some (.string NM) := hcb.cell 1; have n2 : wb.cell? ⟨ga, 2, none⟩ = some (.string VL) := hcb.cell 2; have n3 : wb.cell? ⟨ga, 3, none⟩ = some (.int .i64 P) := hcb.cell 3)
                | (go_at_call 71; refine (cU.out _ (by first | exact Fr.refl _ _ | assumption)).mono ?_; rintro e w5 ⟨rfl, h5⟩; have h5' := h5.symm; subst h5'))
            refine (cT.out _).mono ?_
            rintro e w5 ⟨rfl, h5⟩
            have h5' := h5.symm
            subst h5'
            go_wp2_with fail
            refine (cH.out _).mono ?_
            rintro e w5 ⟨rfl, h5⟩
            have h5' := h5.symm
            subst h5'
            go_wp2_with fail
            all_goals
              go_ret
              exact ⟨rfl, frb⟩
  · have u0 : ((U : Int) == 0) = false := by rw [beq_eq_false_iff_ne]; omega
    have u2 : ((U : Int) == 2) = false := by rw [beq_eq_false_iff_ne]; omega
    have u1 : ((U : Int) == 1) = false := by rw [beq_eq_false_iff_ne]; omega
    rw [u0, u1, u2]
    rw [show (false || (false || false)) = false from rfl, Bool.false_and]
    go_enter Tryz.func61, Tryz.ntmps61
    go_wp2_with (first
        | (refine wp_alloc 41 rfl rfl _ zeroN _ rfl ?_; intro wa ga hga hca fa)
        | (refine wp_storeC 41 rfl _ _ rfl ga _ (ndC 5 NM VL P) rfl rfl hca infoN rfl (ndC_one _ _ _ _) ?_; intro wb hcb fb; have frb : Fr [] w wb := (fa).then fb (fun j hj hm => (by simp at hm; omega)); have n0 : wb.cell? ⟨ga, 0, none⟩ = some (.int .u8 ((5 : Nat) : Int)) := hcb.cell 0; have n1 : wb.cell? ⟨ga, 1, none⟩ = some (.string NM) := hcb.cell 1; have n2 : wb.cell? ⟨ga, 2, none⟩ = some (.string VL) := hcb.cell 2; have n3 : wb.cell? ⟨ga, 3, none⟩ = some (.int .i64 P) := hcb.cell 3)
        | (go_at_call 71; refine (cU.out _ (by first | exact Fr.refl _ _ | assumption)).mono ?_; rintro e w5 ⟨rfl, h5⟩; have h5' := h5.symm; subst h5'))
    refine (cT.out _).mono ?_
    rintro e w5 ⟨rfl, h5⟩
    have h5' := h5.symm
    subst h5'
    go_wp2_with fail
    all_goals
      go_ret
      exact ⟨rfl, frb⟩
end Go.Proofs.YtdfgmdddnehocaaGreatDoor

