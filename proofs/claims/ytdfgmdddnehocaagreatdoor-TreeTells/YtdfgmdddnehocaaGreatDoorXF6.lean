/-
  The document's own answer: does a node fit?
-/
import Derived.Test.YtdfgmdddnehocaaGreatDoorXRefA
set_option linter.unusedVariables false
set_option linter.unusedSimpArgs false
namespace Go.Proofs.YtdfgmdddnehocaaGreatDoor
open Go.RowKit Go.Maps Go.Lib

set_option maxHeartbeats 8000000 in
set_option maxRecDepth 100000 in
theorem fits_6a (w : World) (b off c n : Nat) (i : Nat) (hi : i < n) (hl : n ≤ 16384) (NM VL : ByteArray) (P : Int) (U : Nat) (NB XB H : Bool) (h0 : VL.toList.isEmpty = true)
    (c0 : w.cell? ⟨b, off + i * 4, none⟩ = some (.int .u8 ((6 : Nat) : Int))) (c1 : w.cell? ⟨b, off + i * 4 + 1, none⟩ = some (.string NM)) (c2 : w.cell? ⟨b, off + i * 4 + 2, none⟩ = some (.string VL)) (c3 : w.cell? ⟨b, off + i * 4 + 3, none⟩ = some (.int .i64 P))
    (cU : Hid (∀ w', Fr [] w w' → Calls Tryz.prog 71 #[.slice (some ⟨b, off, none⟩) n c, .int .i64 (i : Int)] w' fun e w'' => e = .returned (.int .u8 (U : Int)) ∧ w'' = w'))
    (cT : Hid (∀ w', Calls Tryz.prog 72 #[.string VL] w' fun e w'' => e = .returned (.bool true) ∧ w'' = w'))
    (hSz : ¬ (65536 : Int) < (VL.size : Int))
    (cN : Hid (∀ w', Calls Tryz.prog 73 #[.string NM] w' fun e w'' => e = .returned (.bool NB) ∧ w'' = w'))
    (cX : Hid (∀ w', Calls Tryz.prog 77 #[.string NM] w' fun e w'' => e = .returned (.bool XB) ∧ w'' = w'))
    (cH : Hid (∀ w', Calls Tryz.prog 76 #[.string VL, .string ⟨#[63, 62]⟩] w' fun e w'' => e = .returned (.bool H) ∧ w'' = w'))
    : Calls Tryz.prog 61 #[.slice (some ⟨b, off, none⟩) n c, .int .i64 (i : Int)] w fun e w' => e = .returned (.bool ((((U : Int) == 0) || (((U : Int) == 2) || ((U : Int) == 1))) && (NB && (!XB && (!H && true))))) ∧ Fr [] w w' := by
  have hi' : (i : Int) < (n : Int) := by omega
  have hi0 : (0 : Int) ≤ (i : Int) := by omega
  by_cases hU : U = 0 ∨ U = 2 ∨ U = 1
  · rcases hU with rfl | rfl | rfl
    all_goals
      cases NB with
      | false =>
        rw [Bool.false_and, Bool.and_false]
        go_enter Tryz.func61, Tryz.ntmps61
        go_wp2_with (first
            | (refine wp_alloc 41 rfl rfl _ zeroN _ rfl ?_; intro wa ga hga hca fa)
            | (refine wp_storeC 41 rfl _ _ rfl ga _ (ndC 6 NM VL P) rfl rfl hca infoN rfl (ndC_one _ _ _ _) ?_; intro wb hcb fb; have frb : Fr [] w wb := (fa).then fb (fun j hj hm => (by simp at hm; omega)); have n0 : wb.cell? ⟨ga, 0, none⟩ = some (.int .u8 ((6 : Nat) : Int)) := hcb.cell 0; have n1 : wb.cell? ⟨ga, 1, none⟩ = some (.string NM) := hcb.cell 1; have n2 : wb.cell? ⟨ga, 2, none⟩ = some (.string VL) := hcb.cell 2; have n3 : wb.cell? ⟨ga, 3, none⟩ = some (.int .i64 P) := hcb.cell 3)
            | (go_at_call 71; refine (cU.out _ (by first | exact Fr.refl _ _ | assumption)).mono ?_; rintro e w5 ⟨rfl, h5⟩; have h5' := h5.symm; subst h5'))
        refine (cT.out _).mono ?_
        rintro e w5 ⟨rfl, h5⟩
        have h5' := h5.symm
        subst h5'
        go_wp2_with fail
        refine (cN.out _).mono ?_
        rintro e w5 ⟨rfl, h5⟩
        have h5' := h5.symm
        subst h5'
        go_wp2_with fail
        all_goals
          go_ret
          exact ⟨rfl, frb⟩
      | true =>
        cases XB with
        | true =>
          rw [Bool.not_true, Bool.false_and, Bool.and_false, Bool.and_false]
          go_enter Tryz.func61, Tryz.ntmps61
          go_wp2_with (first
              | (refine wp_alloc 41 rfl rfl _ zeroN _ rfl ?_; intro wa ga hga hca fa)
              | (refine wp_storeC 41 rfl _ _ rfl ga _ (ndC 6 NM VL P) rfl rfl hca infoN rfl (ndC_one _ _ _ _) ?_; intro wb hcb fb; have frb : Fr [] w wb := (fa).then fb (fun j hj hm => (by simp at hm; omega)); have n0 : wb.cell? ⟨ga, 0, none⟩ = some (.int .u8 ((6 : Nat) : Int)) := hcb.cell 0; have n1 : wb.cell? ⟨ga, 1, none⟩ = some (.string NM) := hcb.cell 1; have n2 : wb.cell? ⟨ga, 2, none⟩ = some (.string VL) := hcb.cell 2; have n3 : wb.cell? ⟨ga, 3, none⟩ = some (.int .i64 P) := hcb.cell 3)
              | (go_at_call 71; refine (cU.out _ (by first | exact Fr.refl _ _ | assumption)).mono ?_; rintro e w5 ⟨rfl, h5⟩; have h5' := h5.symm; subst h5'))
          refine (cT.out _).mono ?_
          rintro e w5 ⟨rfl, h5⟩
          have h5' := h5.symm
          subst h5'
          go_wp2_with fail
          refine (cN.out _).mono ?_
          rintro e w5 ⟨rfl, h5⟩
          have h5' := h5.symm
          subst h5'
          go_wp2_with fail
          refine (cX.out _).mono ?_
          rintro e w5 ⟨rfl, h5⟩
          have h5' := h5.symm
          subst h5'
          go_wp2_with fail
          all_goals
            go_ret
            exact ⟨rfl, frb⟩
        | false =>
          cases H with
          | true =>
            rw [Bool.not_true, Bool.false_and, Bool.and_false, Bool.and_false, Bool.and_false]
            go_enter Tryz.func61, Tryz.ntmps61
            go_wp2_with (first
                | (refine wp_alloc 41 rfl rfl _ zeroN _ rfl ?_; intro wa ga hga hca fa)
                | (refine wp_storeC 41 rfl _ _ rfl ga _ (ndC 6 NM VL P) rfl rfl hca infoN rfl (ndC_one _ _ _ _) ?_; intro wb hcb fb; have frb : Fr [] w wb := (fa).then fb (fun j hj hm => (by simp at hm; omega)); have n0 : wb.cell? ⟨ga, 0, none⟩ = some (.int .u8 ((6 : Nat) : Int)) := hcb.cell 0; have n1 : wb.cell? ⟨ga, 1, none⟩ = some (.string NM) := hcb.cell 1; have n2 : wb.cell? ⟨ga, 2, none⟩ = some (.string VL) := hcb.cell 2; have n3 : wb.cell? ⟨ga, 3, none⟩ = some (.int .i64 P) := hcb.cell 3)
                | (go_at_call 71; refine (cU.out _ (by first | exact Fr.refl _ _ | assumption)).mono ?_; rintro e w5 ⟨rfl, h5⟩; have h5' := h5.symm; subst h5'))
            refine (cT.out _).mono ?_
            rintro e w5 ⟨rfl, h5⟩
            have h5' := h5.symm
            subst h5'
            go_wp2_with fail
            refine (cN.out _).mono ?_
            rintro e w5 ⟨rfl, h5⟩
            have h5' := h5.symm
            subst h5'
            go_wp2_with fail
            refine (cX.out _).mono ?_
            rintro e w5 ⟨rfl, h5⟩
            have h5' := h5.symm
            subst h5'
            go_wp2_with fail
            refine (cH.out _).mono ?_
            rintro e w5 ⟨rfl, h5⟩
            have h5' := h5.symm
            subst h5'
            go_wp2_with fail
            all_goals
              go_ret
              exact ⟨rfl, frb⟩
          | false =>
            go_enter Tryz.func61, Tryz.ntmps61
            go_wp2_with (first
                | (refine wp_alloc 41 rfl rfl _ zeroN _ rfl ?_; intro wa ga hga hca fa)
                | (refine wp_storeC 41 rfl _ _ rfl ga _ (ndC 6 NM VL P) rfl rfl hca infoN rfl (ndC_one _ _ _ _) ?_; intro wb hcb fb; have frb : Fr [] w wb := (fa).then fb (fun j hj hm => (by simp at hm; omega)); have n0 : wb.cell? ⟨ga, 0, none⟩ = some (.int .u8 ((6 : Nat) : Int)) := hcb.cell 0; have n1 : wb.cell? ⟨ga, 1, none⟩ = some (.string NM) := hcb.cell 1; have n2 : wb.cell? ⟨ga, 2, none⟩ = some (.string VL) := hcb.cell 2; have n3 : wb.cell? ⟨ga, 3, none⟩ = some (.int .i64 P) := hcb.cell 3)
                | (go_at_call 71; refine (cU.out _ (by first | exact Fr.refl _ _ | assumption)).mono ?_; rintro e w5 ⟨rfl, h5⟩; have h5' := h5.symm; subst h5'))
            refine (cT.out _).mono ?_
            rintro e w5 ⟨rfl, h5⟩
            have h5' := h5.symm
            subst h5'
            go_wp2_with fail
            refine (cN.out _).mono ?_
            rintro e w5 ⟨rfl, h5⟩
            have h5' := h5.symm
            subst h5'
            go_wp2_with fail
            refine (cX.out _).mono ?_
            rintro e w5 ⟨rfl, h5⟩
            have h5' := h5.symm
            subst h5'
            go_wp2_with fail
            refine (cH.out _).mono ?_
            rintro e w5 ⟨rfl, h5⟩
            have h5' := h5.symm
            subst h5'
            go_wp2_with fail
            all_goals
              go_ret
              exact ⟨rfl, frb⟩
  · have u0 : ((U : Int) == 0) = false := by rw [beq_eq_false_iff_ne]; omega
    have u2 : ((U : Int) == 2) = false := by rw [beq_eq_false_iff_ne]; omega
    have u1 : ((U : Int) == 1) = false := by rw [beq_eq_false_iff_ne]; omega
    rw [u0, u1, u2]
    rw [show (false || (false || false)) = false from rfl, Bool.false_and]
    go_enter Tryz.func61, Tryz.ntmps61
    go_wp2_with (first
        | (refine wp_alloc 41 rfl rfl _ zeroN _ rfl ?_; intro wa ga hga hca fa)
        | (refine wp_storeC 41 rfl _ _ rfl ga _ (ndC 6 NM VL P) rfl rfl hca infoN rfl (ndC_one _ _ _ _) ?_; intro wb hcb fb; have frb : Fr [] w wb := (fa).then fb (fun j hj hm => (by simp at hm; omega)); have n0 : wb.cell? ⟨ga, 0, none⟩ = some (.int .u8 ((6 : Nat) : Int)) := hcb.cell 0; have n1 : wb.cell? ⟨ga, 1, none⟩ = some (.string NM) := hcb.cell 1; have n2 : wb.cell? ⟨ga, 2, none⟩ = some (.string VL) := hcb.cell 2; have n3 : wb.cell? ⟨ga, 3, none⟩ = some (.int .i64 P) := hcb.cell 3)
        | (go_at_call 71; refine (cU.out _ (by first | exact Fr.refl _ _ | assumption)).mono ?_; rintro e w5 ⟨rfl, h5⟩; have h5' := h5.symm; subst h5'))
    refine (cT.out _).mono ?_
    rintro e w5 ⟨rfl, h5⟩
    have h5' := h5.symm
    subst h5'
    go_wp2_with fail
    all_goals
      go_ret
      exact ⟨rfl, frb⟩
end Go.Proofs.YtdfgmdddnehocaaGreatDoor

set_option linter.unusedVariables false
set_option linter.unusedSimpArgs false
namespace Go.Proofs.YtdfgmdddnehocaaGreatDoor
open Go.RowKit Go.Maps Go.Lib

set_option maxHeartbeats 8000000 in
set_option maxRecDepth 100000 in
theorem fits_6b (w : World) (b off c n : Nat) (i : Nat) (hi : i < n) (hl : n ≤ 16384) (NM VL : ByteArray) (P : Int) (U : Nat) (NB XB H BB : Bool) (h0 : VL.toList.isEmpty = false) (hz : 1 ≤ VL.size)
    (c0 : w.cell? ⟨b, off + i * 4, none⟩ = some (.int .u8 ((6 : Nat) : Int))) (c1 : w.cell? ⟨b, off + i * 4 + 1, none⟩ = some (.string NM)) (c2 : w.cell? ⟨b, off + i * 4 + 2, none⟩ = some (.string VL)) (c3 : w.cell? ⟨b, off + i * 4 + 3, none⟩ = some (.int .i64 P))
    (cU : Hid (∀ w', Fr [] w w' → Calls Tryz.prog 71 #[.slice (some ⟨b, off, none⟩) n c, .int .i64 (i : Int)] w' fun e w'' => e = .returned (.int .u8 (U : Int)) ∧ w'' = w'))
    (cT : Hid (∀ w', Calls Tryz.prog 72 #[.string VL] w' fun e w'' => e = .returned (.bool true) ∧ w'' = w'))
    (hSz : ¬ (65536 : Int) < (VL.size : Int))
    (cN : Hid (∀ w', Calls Tryz.prog 73 #[.string NM] w' fun e w'' => e = .returned (.bool NB) ∧ w'' = w'))
    (cX : Hid (∀ w', Calls Tryz.prog 77 #[.string NM] w' fun e w'' => e = .returned (.bool XB) ∧ w'' = w'))
    (cH : Hid (∀ w', Calls Tryz.prog 76 #[.string VL, .string ⟨#[63, 62]⟩] w' fun e w'' => e = .returned (.bool H) ∧ w'' = w'))
    (cB : Hid (∀ w', Calls Tryz.prog 78 #[.string (mkS ((bl VL).take 1))] w' fun e w'' => e = .returned (.bool BB) ∧ w'' = w'))
    : Calls Tryz.prog 61 #[.slice (some ⟨b, off, none⟩) n c, .int .i64 (i : Int)] w fun e w' => e = .returned (.bool ((((U : Int) == 0) || (((U : Int) == 2) || ((U : Int) == 1))) && (NB && (!XB && (!H && !BB))))) ∧ Fr [] w w' := by
  have hi' : (i : Int) < (n : Int) := by omega
  have hi0 : (0 : Int) ≤ (i : Int) := by omega
  by_cases hU : U = 0 ∨ U = 2 ∨ U = 1
  · rcases hU with rfl | rfl | rfl
    all_goals
      cases NB with
      | false =>
        rw [Bool.false_and, Bool.and_false]
        go_enter Tryz.func61, Tryz.ntmps61
        go_wp2_with (first
            | (refine wp_alloc 41 rfl rfl _ zeroN _ rfl ?_; intro wa ga hga hca fa)
            | (refine wp_storeC 41 rfl _ _ rfl ga _ (ndC 6 NM VL P) rfl rfl hca infoN rfl (ndC_one _ _ _ _) ?_; intro wb hcb fb; have frb : Fr [] w wb := (fa).then fb (fun j hj hm => (by simp at hm; omega)); have n0 : wb.cell? ⟨ga, 0, none⟩ = some (.int .u8 ((6 : Nat) : Int)) := hcb.cell 0; have n1 : wb.cell? ⟨ga, 1, none⟩ = some (.string NM) := hcb.cell 1; have n2 : wb.cell? ⟨ga, 2, none⟩ = some (.string VL) := hcb.cell 2; have n3 : wb.cell? ⟨ga, 3, none⟩ = some (.int .i64 P) := hcb.cell 3)
            | (go_at_call 71; refine (cU.out _ (by first | exact Fr.refl _ _ | assumption)).mono ?_; rintro e w5 ⟨rfl, h5⟩; have h5' := h5.symm; subst h5'))
        refine (cT.out _).mono ?_
        rintro e w5 ⟨rfl, h5⟩
        have h5' := h5.symm
        subst h5'
        go_wp2_with fail
        refine (cN.out _).mono ?_
        rintro e w5 ⟨rfl, h5⟩
        have h5' := h5.symm
        subst h5'
        go_wp2_with fail
        all_goals
          go_ret
          exact ⟨rfl, frb⟩
      | true =>
        cases XB with
        | true =>
          rw [Bool.not_true, Bool.false_and, Bool.and_false, Bool.and_false]
          go_enter Tryz.func61, Tryz.ntmps61
          go_wp2_with (first
              | (refine wp_alloc 41 rfl rfl _ zeroN _ rfl ?_; intro wa ga hga hca fa)
              | (refine wp_storeC 41 rfl _ _ rfl ga _ (ndC 6 NM VL P) rfl rfl hca infoN rfl (ndC_one _ _ _ _) ?_; intro wb hcb fb; have frb : Fr [] w wb := (fa).then fb (fun j hj hm => (by simp at hm; omega)); have n0 : wb.cell? ⟨ga, 0, none⟩ = some (.int .u8 ((6 : Nat) : Int)) := hcb.cell 0; have n1 : wb.cell? ⟨ga, 1, none⟩ = some (.string NM) := hcb.cell 1; have n2 : wb.cell? ⟨ga, 2, none⟩ = some (.string VL) := hcb.cell 2; have n3 : wb.cell? ⟨ga, 3, none⟩ = some (.int .i64 P) := hcb.cell 3)
              | (go_at_call 71; refine (cU.out _ (by first | exact Fr.refl _ _ | assumption)).mono ?_; rintro e w5 ⟨rfl, h5⟩; have h5' := h5.symm; subst h5'))
          refine (cT.out _).mono ?_
          rintro e w5 ⟨rfl, h5⟩
          have h5' := h5.symm
          subst h5'
          go_wp2_with fail
          refine (cN.out _).mono ?_
          rintro e w5 ⟨rfl, h5⟩
          have h5' := h5.symm
          subst h5'
          go_wp2_with fail
          refine (cX.out _).mono ?_
          rintro e w5 ⟨rfl, h5⟩
          have h5' := h5.symm
          subst h5'
          go_wp2_with fail
          all_goals
            go_ret
            exact ⟨rfl, frb⟩
        | false =>
          cases H with
          | true =>
            rw [Bool.not_true, Bool.false_and, Bool.and_false, Bool.and_false, Bool.and_false]
            go_enter Tryz.func61, Tryz.ntmps61
            go_wp2_with (first
                | (refine wp_alloc 41 rfl rfl _ zeroN _ rfl ?_; intro wa ga hga hca fa)
                | (refine wp_storeC 41 rfl _ _ rfl ga _ (ndC 6 NM VL P) rfl rfl hca infoN rfl (ndC_one _ _ _ _) ?_; intro wb hcb fb; have frb : Fr [] w wb := (fa).then fb (fun j hj hm => (by simp at hm; omega)); have n0 : wb.cell? ⟨ga, 0, none⟩ = some (.int .u8 ((6 : Nat) : Int)) := hcb.cell 0; have n1 : wb.cell? ⟨ga, 1, none⟩ = some (.string NM) := hcb.cell 1; have n2 : wb.cell? ⟨ga, 2, none⟩ = some (.string VL) := hcb.cell 2; have n3 : wb.cell? ⟨ga, 3, none⟩ = some (.int .i64 P) := hcb.cell 3)
                | (go_at_call 71; refine (cU.out _ (by first | exact Fr.refl _ _ | assumption)).mono ?_; rintro e w5 ⟨rfl, h5⟩; have h5' := h5.symm; subst h5'))
            refine (cT.out _).mono ?_
            rintro e w5 ⟨rfl, h5⟩
            have h5' := h5.symm
            subst h5'
            go_wp2_with fail
            refine (cN.out _).mono ?_
            rintro e w5 ⟨rfl, h5⟩
            have h5' := h5.symm
            subst h5'
            go_wp2_with fail
            refine (cX.out _).mono ?_
            rintro e w5 ⟨rfl, h5⟩
            have h5' := h5.symm
            subst h5'
            go_wp2_with fail
            refine (cH.out _).mono ?_
            rintro e w5 ⟨rfl, h5⟩
            have h5' := h5.symm
            subst h5'
            go_wp2_with fail
            all_goals
              go_ret
              exact ⟨rfl, frb⟩
          | false =>
            have hz' : (1 : Int) ≤ (VL.size : Int) := by omega
            have hix := run_head VL 1 1 rfl hz
            cases BB
            all_goals
              go_enter Tryz.func61, Tryz.ntmps61
              go_wp2_with (first
                  | (refine wp_alloc 41 rfl rfl _ zeroN _ rfl ?_; intro wa ga hga hca fa)
                  | (refine wp_storeC 41 rfl _ _ rfl ga _ (ndC 6 NM VL P) rfl rfl hca infoN rfl (ndC_one _ _ _ _) ?_; intro wb hcb fb; have frb : Fr [] w wb := (fa).then fb (fun j hj hm => (by simp at hm; omega)); have n0 : wb.cell? ⟨ga, 0, none⟩ = some (.int .u8 ((6 : Nat) : Int)) := hcb.cell 0; have n1 : wb.cell? ⟨ga, 1, none⟩ = some (.string NM) := hcb.cell 1; have n2 : wb.cell? ⟨ga, 2, none⟩ = some (.string VL) := hcb.cell 2; have n3 : wb.cell? ⟨ga, 3, none⟩ = some (.int .i64 P) := hcb.cell 3)
                  | (go_at_call 71; refine (cU.out _ (by first | exact Fr.refl _ _ | assumption)).mono ?_; rintro e w5 ⟨rfl, h5⟩; have h5' := h5.symm; subst h5'))
              refine (cT.out _).mono ?_
              rintro e w5 ⟨rfl, h5⟩
              have h5' := h5.symm
              subst h5'
              go_wp2_with fail
              refine (cN.out _).mono ?_
              rintro e w5 ⟨rfl, h5⟩
              have h5' := h5.symm
              subst h5'
              go_wp2_with fail
              refine (cX.out _).mono ?_
              rintro e w5 ⟨rfl, h5⟩
              have h5' := h5.symm
              subst h5'
              go_wp2_with fail
              refine (cH.out _).mono ?_
              rintro e w5 ⟨rfl, h5⟩
              have h5' := h5.symm
              subst h5'
              go_wp2_with fail
              refine (cB.out _).mono ?_
              rintro e w5 ⟨rfl, h5⟩
              have h5' := h5.symm
              subst h5'
              go_wp2_with fail
              all_goals
                go_ret
                exact ⟨rfl, frb⟩
  · have u0 : ((U : Int) == 0) = false := by rw [beq_eq_false_iff_ne]; omega
    have u2 : ((U : Int) == 2) = false := by rw [beq_eq_false_iff_ne]; omega
    have u1 : ((U : Int) == 1) = false := by rw [beq_eq_false_iff_ne]; omega
    rw [u0, u1, u2]
    rw [show (false || (false || false)) = false from rfl, Bool.false_and]
    go_enter Tryz.func61, Tryz.ntmps61
    go_wp2_with (first
        | (refine wp_alloc 41 rfl rfl _ zeroN _ rfl ?_; intro wa ga hga hca fa)
        | (refine wp_storeC 41 rfl _ _ rfl ga _ (ndC 6 NM VL P) rfl rfl hca infoN rfl (ndC_one _ _ _ _) ?_; intro wb hcb fb; have frb : Fr [] w wb := (fa).then fb (fun j hj hm => (by simp at hm; omega)); have n0 : wb.cell? ⟨ga, 0, none⟩ = some (.int .u8 ((6 : Nat) : Int)) := hcb.cell 0; have n1 : wb.cell? ⟨ga, 1, none⟩ = some (.string NM) := hcb.cell 1; have n2 : wb.cell? ⟨ga, 2, none⟩ = some (.string VL) := hcb.cell 2; have n3 : wb.cell? ⟨ga, 3, none⟩ = some (.int .i64 P) := hcb.cell 3)
        | (go_at_call 71; refine (cU.out _ (by first | exact Fr.refl _ _ | assumption)).mono ?_; rintro e w5 ⟨rfl, h5⟩; have h5' := h5.symm; subst h5'))
    refine (cT.out _).mono ?_
    rintro e w5 ⟨rfl, h5⟩
    have h5' := h5.symm
    subst h5'
    go_wp2_with fail
    all_goals
      go_ret
      exact ⟨rfl, frb⟩
end Go.Proofs.YtdfgmdddnehocaaGreatDoor

