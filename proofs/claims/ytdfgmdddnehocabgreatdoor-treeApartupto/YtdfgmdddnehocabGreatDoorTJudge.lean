/-
  judge, Check, Fragment.
-/
import Derived.Test.YtdfgmdddnehocabGreatDoorTMeas
namespace Go.Proofs.YtdfgmdddnehocabGreatDoor
open Go.RowKit Go.Maps Go.Lib

def oneB (t : List Nd) : Bool := decide (knd t 0 = 1) && (decide (tops t = 1) && decide (elems t = 1))
def noB (t : List Nd) : Bool := decide (knd t 0 ≠ 1)
theorem take_count (f : Nd → Bool) (t : List Nd) (i : Nat) (hi : i < t.length) : (t.take (i + 1)).countP f = (t.take i).countP f + (if f (nth t i) = true then 1 else 0) := by
  rw [List.take_succ_eq_append_getElem hi, List.countP_append, nth_lt hi]
  simp [List.countP_cons]
set_option maxHeartbeats 4000000 in
set_option maxRecDepth 100000 in
theorem hasOneRoot_some (w : World) (b off c : Nat) (t : List Nd) (hN : NodesIn w b off t) (hl : t.length ≤ 16384) :
    Calls Tryz.prog 34 #[.slice (some ⟨b, off, none⟩) t.length c] w fun e w' => e = .returned (.bool (oneB t)) ∧ Fr [] w w' := by
  have HNd := Hid.mk hN
  by_cases h0 : t.length = 0
  · have e : oneB t = false := by
      unfold oneB knd
      rw [nth_ge (by omega)]
      rfl
    rw [e]
    have h0' : ((t.length : Int) == 0) = true := by rw [beq_iff_eq]; omega
    clear hN e
    go_enter Tryz.func34, Tryz.ntmps34
    go_wp2
    go_ret
    exact ⟨rfl, Fr.refl _ _⟩
  · have h0' : ((t.length : Int) == 0) = false := by rw [beq_eq_false_iff_ne]; omega
    have hl0 : (0 : Int) < (t.length : Int) := by omega
    obtain ⟨c0, c1, c2, c3⟩ := hN 0 (by omega)
    rw [Nat.zero_mul, Nat.add_zero] at c0
    clear c1 c2 c3 hN
    unfold oneB
    by_cases k1 : knd t 0 = 1
    · rw [k1] at c0 ⊢
      rw [decide_eq_true rfl, Bool.true_and]
      obtain ⟨R, HR⟩ : ∃ R, Hid ((decide (tops t = 1) && decide (elems t = 1)) = R) := ⟨_, rfl⟩
      rw [HR.out]
      clear k1
      go_enter Tryz.func34, Tryz.ntmps34
      go_wp2
      go_loopw [3, 4, 19] (fun s3 s4 s19 wr => ∃ (A E i : Nat), s3 = .int .i64 (A : Int) ∧ s4 = .int .i64 (E : Int) ∧ s19 = .int .i64 (i : Int) ∧ i ≤ t.length ∧ A ≤ i ∧ E ≤ i ∧ Hid ((t.take i).countP (fun n => decide (n.parent < 0)) = A) ∧ Hid ((t.take i).countP (fun n => decide (n.parent = 0 ∧ n.kind = 2)) = E) ∧ Hid (Fr [] w wr)) (fun _ _ s19 _ => t.length - (RowKit.intOf s19).toNat)
      case atStart => exact ⟨0, 0, 0, rfl, rfl, rfl, Nat.zero_le _, Nat.le_refl _, Nat.le_refl _, rfl, rfl, Fr.refl _ _⟩
      case round =>
        obtain ⟨A, E, i, rfl, rfl, rfl, hil, hAi, hEi, hA, hE, frh⟩ := hrel
        by_cases hlt : i < t.length
        · have hlt' : (i : Int) < (t.length : Int) := by omega
          have hi0 : (0 : Int) ≤ (i : Int) := by omega
          obtain ⟨c0, c1, c2, c3⟩ := (HNd.out.kept frh.out (by simp)) i hlt
          have hA' := take_count (fun n => decide (n.parent < 0)) t i hlt
          have hE' := take_count (fun n => decide (n.parent = 0 ∧ n.kind = 2)) t i hlt
          rw [hA.out] at hA'
          rw [hE.out] at hE'
          simp only [decide_eq_true_eq] at hA' hE'
          change _ = A + (if par t i < 0 then 1 else 0) at hA'
          change _ = E + (if par t i = 0 ∧ knd t i = 2 then 1 else 0) at hE'
          generalize knd t i = K at c0 hE'
          generalize nam t i = NM at c1
          generalize vlu t i = VL at c2
          generalize par t i = p at c3 hA' hE'
          by_cases hp : p < 0
          · rw [if_pos hp] at hA'
            rw [if_neg (by omega)] at hE'
            have HA' := Hid.mk hA'
            have HE' := Hid.mk hE'
            clear hA' hE'
            go_wp2_with (first
              | (refine wp_alloc 62 rfl rfl _ zeroN _ rfl ?_; intro wa ga hga hca fa)
              | (refine wp_storeC 62 rfl _ _ rfl ga _ (ndC K NM VL p) rfl rfl hca infoN rfl (ndC_one _ _ _ _) ?_; intro wb hcb fb; have frb : Hid (Fr [] w wb) := (frh.out.trans fa).then fb (fun j hj hm => (by simp at hm; have := frh.out.size; omega)); have n0 : wb.cell? ⟨ga, 0, none⟩ = some (.int .u8 ((K : Nat) : Int)) := hcb.cell 0; have n3 : wb.cell? ⟨ga, 3, none⟩ = some (.int .i64 p) := hcb.cell 3)
              | go_in)
            exact ⟨⟨A + 1, E, i + 1, by go_num, by rfl, by go_num, by omega, by omega, by omega, HA', HE', frb⟩, by simp [RowKit.intOf]; omega⟩
          · rw [if_neg hp] at hA'
            have HA' := Hid.mk hA'
            clear hA'
            by_cases hp0 : p = 0
            · subst hp0
              by_cases hk2 : K = 2
              · subst hk2
                rw [if_pos ⟨rfl, rfl⟩] at hE'
                have HE' := Hid.mk hE'
                clear hE'
                go_wp2_with (first
                  | (refine wp_alloc 62 rfl rfl _ zeroN _ rfl ?_; intro wa ga hga hca fa)
                  | (refine wp_storeC 62 rfl _ _ rfl ga _ (ndC 2 NM VL 0) rfl rfl hca infoN rfl (ndC_one _ _ _ _) ?_; intro wb hcb fb; have frb : Hid (Fr [] w wb) := (frh.out.trans fa).then fb (fun j hj hm => (by simp at hm; have := frh.out.size; omega)); have n0 : wb.cell? ⟨ga, 0, none⟩ = some (.int .u8 ((2 : Nat) : Int)) := hcb.cell 0; have n3 : wb.cell? ⟨ga, 3, none⟩ = some (.int .i64 0) := hcb.cell 3)
                  | go_in)
                exact ⟨⟨A, E + 1, i + 1, by rfl, by go_num, by go_num, by omega, by omega, by omega, HA', HE', frb⟩, by simp [RowKit.intOf]; omega⟩
              · rw [if_neg (fun h => hk2 h.2)] at hE'
                have HE' := Hid.mk hE'
                have hkb : ((K : Int) == 2) = false := by rw [beq_eq_false_iff_ne]; omega
                clear hE'
                go_wp2_with (first
                  | (refine wp_alloc 62 rfl rfl _ zeroN _ rfl ?_; intro wa ga hga hca fa)
                  | (refine wp_storeC 62 rfl _ _ rfl ga _ (ndC K NM VL 0) rfl rfl hca infoN rfl (ndC_one _ _ _ _) ?_; intro wb hcb fb; have frb : Hid (Fr [] w wb) := (frh.out.trans fa).then fb (fun j hj hm => (by simp at hm; have := frh.out.size; omega)); have n0 : wb.cell? ⟨ga, 0, none⟩ = some (.int .u8 ((K : Nat) : Int)) := hcb.cell 0; have n3 : wb.cell? ⟨ga, 3, none⟩ = some (.int .i64 0) := hcb.cell 3)
                  | go_in)
                exact ⟨⟨A, E, i + 1, by rfl, by rfl, by go_num, by omega, by omega, by omega, HA', HE', frb⟩, by simp [RowKit.intOf]; omega⟩
            · rw [if_neg (fun h => hp0 h.1)] at hE'
              have HE' := Hid.mk hE'
              have hpb : (p == 0) = false := by rw [beq_eq_false_iff_ne]; exact hp0
              clear hE'
              go_wp2_with (first
                | (refine wp_alloc 62 rfl rfl _ zeroN _ rfl ?_; intro wa ga hga hca fa)
                | (refine wp_storeC 62 rfl _ _ rfl ga _ (ndC K NM VL p) rfl rfl hca infoN rfl (ndC_one _ _ _ _) ?_; intro wb hcb fb; have frb : Hid (Fr [] w wb) := (frh.out.trans fa).then fb (fun j hj hm => (by simp at hm; have := frh.out.size; omega)); have n0 : wb.cell? ⟨ga, 0, none⟩ = some (.int .u8 ((K : Nat) : Int)) := hcb.cell 0; have n3 : wb.cell? ⟨ga, 3, none⟩ = some (.int .i64 p) := hcb.cell 3)
                | go_in)
              exact ⟨⟨A, E, i + 1, by rfl, by rfl, by go_num, by omega, by omega, by omega, HA', HE', frb⟩, by simp [RowKit.intOf]; omega⟩
        · obtain rfl : i = t.length := by omega
          have e1 : tops t = A := by have := hA.out; rwa [List.take_length] at this
          have e2 : elems t = E := by have := hE.out; rwa [List.take_length] at this
          have hR := HR.out
          rw [e1, e2] at hR
          subst hR
          clear HR
          by_cases hA1 : A = 1
          · subst hA1
            go_wp2
            go_ret
            exact ⟨congrArg (fun b => Ending.returned (Value.bool b)) (by rw [Bool.eq_iff_iff]; simp; omega), frh.out⟩
          · have hAb : ((A : Int) == 1) = false := by rw [beq_eq_false_iff_ne]; omega
            go_wp2
            go_ret
            exact ⟨congrArg (fun b => Ending.returned (Value.bool b)) (by rw [decide_eq_false hA1]; rfl), frh.out⟩
    · have k1b : (((knd t 0 : Nat) : Int) != 1) = true := by rw [bne_iff_ne]; omega
      rw [decide_eq_false k1, Bool.false_and]
      generalize knd t 0 = K at c0 k1b
      clear k1
      go_enter Tryz.func34, Tryz.ntmps34
      go_wp2
      go_ret
      exact ⟨rfl, Fr.refl _ _⟩
theorem hasNoRoot_some (w : World) (b off c : Nat) (t : List Nd) (hN : NodesIn w b off t) :
    Calls Tryz.prog 85 #[.slice (some ⟨b, off, none⟩) t.length c] w fun e w' => e = .returned (.bool (noB t)) ∧ Fr [] w w' := by
  by_cases h0 : t.length = 0
  · have e : noB t = true := by
      unfold noB knd
      rw [nth_ge (by omega)]
      rfl
    rw [e]
    have h0' : ((t.length : Int) == 0) = true := by rw [beq_iff_eq]; omega
    clear hN e
    go_enter Tryz.func85, Tryz.ntmps85
    go_wp2
    go_ret
    exact ⟨rfl, Fr.refl _ _⟩
  · have h0' : ((t.length : Int) == 0) = false := by rw [beq_eq_false_iff_ne]; omega
    have hl0 : (0 : Int) < (t.length : Int) := by omega
    obtain ⟨c0, c1, c2, c3⟩ := hN 0 (by omega)
    rw [Nat.zero_mul, Nat.add_zero] at c0
    clear c1 c2 c3 hN
    unfold noB
    generalize knd t 0 = K at c0
    by_cases k1 : K = 1
    · subst k1
      go_enter Tryz.func85, Tryz.ntmps85
      go_wp2
      go_ret
      exact ⟨rfl, Fr.refl _ _⟩
    · have k1b : ((K : Int) != 1) = true := by rw [bne_iff_ne]; omega
      rw [decide_eq_true k1]
      clear k1
      go_enter Tryz.func85, Tryz.ntmps85
      go_wp2
      go_ret
      exact ⟨rfl, Fr.refl _ _⟩
/-- What of memory is asked. -/
structure LaidW (w : World) : Prop where
  laid : LaidT w
  looks : Looks w
theorem LaidW.kept {w w' : World} (h : LaidW w) (f : Fr [] w w') : LaidW w' := ⟨h.laid.kept f, h.looks.kept f⟩

set_option maxHeartbeats 4000000 in
set_option maxRecDepth 100000 in
theorem judge_one (w : World) (L : LaidW w) (b off c : Nat) (t : List Nd) (hN : NodesIn w b off t) (hS : Sane t) :
    Calls Tryz.prog 33 #[.slice (some ⟨b, off, none⟩) t.length c, .func (.func 34) #[] #[]] w fun e w' => e = .returned (.int .i64 (judged t (oneB t) : Nat)) ∧ Fr [] w w' := by
  have HL := Hid.mk L
  have HN := Hid.mk hN
  have HS := Hid.mk hS
  obtain ⟨R, HR⟩ : ∃ R, Hid (oneB t = R) := ⟨_, rfl⟩
  rw [HR.out]
  clear L hN hS
  unfold judged
  by_cases hl : 16384 < t.length
  · rw [if_pos hl]
    have hl' : (16384 : Int) < (t.length : Int) := by omega
    go_enter Tryz.func33, Tryz.ntmps33
    go_wp2
    go_ret
    exact ⟨rfl, Fr.refl _ _⟩
  · rw [if_neg hl]
    have hl' : ¬ (16384 : Int) < (t.length : Int) := by omega
    replace hl : t.length ≤ 16384 := by omega
    obtain ⟨D, HD⟩ : ∃ D, Hid (deepR t = D) := ⟨_, rfl⟩
    cases hg : goodB t t.length with
    | false =>
      have HG := Hid.mk hg
      rw [Bool.false_and, if_pos rfl]
      clear hg
      go_enter Tryz.func33, Tryz.ntmps33
      go_wp2_with (first
        | (go_at_call 61; refine (measure_some _ HL.out.laid HL.out.looks b off c t HN.out hl HS.out).mono ?_; rw [HD.out, HG.out]; rintro e w5 ⟨rfl, f5⟩)
        | (go_at_call 34; refine (hasOneRoot_some _ b off c t (HN.out.kept f5 (by simp)) hl).mono ?_; rw [HR.out]; rintro e w6 ⟨rfl, f6⟩))
      go_ret
      exact ⟨rfl, f5⟩
    | true =>
      have HG := Hid.mk hg
      have hd : deepest t t.length = D := by rw [← HD.out]; unfold deepR; rw [if_pos hg]
      rw [Bool.true_and, hd]
      clear hg hd
      cases R with
      | false =>
        rw [if_pos rfl]
        go_enter Tryz.func33, Tryz.ntmps33
        go_wp2_with (first
        | (go_at_call 61; refine (measure_some _ HL.out.laid HL.out.looks b off c t HN.out hl HS.out).mono ?_; rw [HD.out, HG.out]; rintro e w5 ⟨rfl, f5⟩)
        | (go_at_call 34; refine (hasOneRoot_some _ b off c t (HN.out.kept f5 (by simp)) hl).mono ?_; rw [HR.out]; rintro e w6 ⟨rfl, f6⟩))
        go_ret
        exact ⟨rfl, f5.trans f6⟩
      | true =>
        rw [if_neg (by decide)]
        by_cases hd : 60 < D
        · rw [if_pos hd]
          have hd' : (60 : Int) < (D : Int) := by omega
          go_enter Tryz.func33, Tryz.ntmps33
          go_wp2_with (first
        | (go_at_call 61; refine (measure_some _ HL.out.laid HL.out.looks b off c t HN.out hl HS.out).mono ?_; rw [HD.out, HG.out]; rintro e w5 ⟨rfl, f5⟩)
        | (go_at_call 34; refine (hasOneRoot_some _ b off c t (HN.out.kept f5 (by simp)) hl).mono ?_; rw [HR.out]; rintro e w6 ⟨rfl, f6⟩))
          go_ret
          exact ⟨rfl, f5.trans f6⟩
        · rw [if_neg hd]
          have hd' : ¬ (60 : Int) < (D : Int) := by omega
          go_enter Tryz.func33, Tryz.ntmps33
          go_wp2_with (first
        | (go_at_call 61; refine (measure_some _ HL.out.laid HL.out.looks b off c t HN.out hl HS.out).mono ?_; rw [HD.out, HG.out]; rintro e w5 ⟨rfl, f5⟩)
        | (go_at_call 34; refine (hasOneRoot_some _ b off c t (HN.out.kept f5 (by simp)) hl).mono ?_; rw [HR.out]; rintro e w6 ⟨rfl, f6⟩))
          go_ret
          exact ⟨rfl, f5.trans f6⟩
set_option maxHeartbeats 4000000 in
set_option maxRecDepth 100000 in
theorem judge_no (w : World) (L : LaidW w) (b off c : Nat) (t : List Nd) (hN : NodesIn w b off t) (hS : Sane t) :
    Calls Tryz.prog 33 #[.slice (some ⟨b, off, none⟩) t.length c, .func (.func 85) #[] #[]] w fun e w' => e = .returned (.int .i64 (judged t (noB t) : Nat)) ∧ Fr [] w w' := by
  have HL := Hid.mk L
  have HN := Hid.mk hN
  have HS := Hid.mk hS
  obtain ⟨R, HR⟩ : ∃ R, Hid (noB t = R) := ⟨_, rfl⟩
  rw [HR.out]
  clear L hN hS
  unfold judged
  by_cases hl : 16384 < t.length
  · rw [if_pos hl]
    have hl' : (16384 : Int) < (t.length : Int) := by omega
    go_enter Tryz.func33, Tryz.ntmps33
    go_wp2
    go_ret
    exact ⟨rfl, Fr.refl _ _⟩
  · rw [if_neg hl]
    have hl' : ¬ (16384 : Int) < (t.length : Int) := by omega
    replace hl : t.length ≤ 16384 := by omega
    obtain ⟨D, HD⟩ : ∃ D, Hid (deepR t = D) := ⟨_, rfl⟩
    cases hg : goodB t t.length with
    | false =>
      have HG := Hid.mk hg
      rw [Bool.false_and, if_pos rfl]
      clear hg
      go_enter Tryz.func33, Tryz.ntmps33
      go_wp2_with (first
        | (go_at_call 61; refine (measure_some _ HL.out.laid HL.out.looks b off c t HN.out hl HS.out).mono ?_; rw [HD.out, HG.out]; rintro e w5 ⟨rfl, f5⟩)
        | (go_at_call 85; refine (hasNoRoot_some _ b off c t (HN.out.kept f5 (by simp))).mono ?_; rw [HR.out]; rintro e w6 ⟨rfl, f6⟩))
      go_ret
      exact ⟨rfl, f5⟩
    | true =>
      have HG := Hid.mk hg
      have hd : deepest t t.length = D := by rw [← HD.out]; unfold deepR; rw [if_pos hg]
      rw [Bool.true_and, hd]
      clear hg hd
      cases R with
      | false =>
        rw [if_pos rfl]
        go_enter Tryz.func33, Tryz.ntmps33
        go_wp2_with (first
        | (go_at_call 61; refine (measure_some _ HL.out.laid HL.out.looks b off c t HN.out hl HS.out).mono ?_; rw [HD.out, HG.out]; rintro e w5 ⟨rfl, f5⟩)
        | (go_at_call 85; refine (hasNoRoot_some _ b off c t (HN.out.kept f5 (by simp))).mono ?_; rw [HR.out]; rintro e w6 ⟨rfl, f6⟩))
        go_ret
        exact ⟨rfl, f5.trans f6⟩
      | true =>
        rw [if_neg (by decide)]
        by_cases hd : 60 < D
        · rw [if_pos hd]
          have hd' : (60 : Int) < (D : Int) := by omega
          go_enter Tryz.func33, Tryz.ntmps33
          go_wp2_with (first
        | (go_at_call 61; refine (measure_some _ HL.out.laid HL.out.looks b off c t HN.out hl HS.out).mono ?_; rw [HD.out, HG.out]; rintro e w5 ⟨rfl, f5⟩)
        | (go_at_call 85; refine (hasNoRoot_some _ b off c t (HN.out.kept f5 (by simp))).mono ?_; rw [HR.out]; rintro e w6 ⟨rfl, f6⟩))
          go_ret
          exact ⟨rfl, f5.trans f6⟩
        · rw [if_neg hd]
          have hd' : ¬ (60 : Int) < (D : Int) := by omega
          go_enter Tryz.func33, Tryz.ntmps33
          go_wp2_with (first
        | (go_at_call 61; refine (measure_some _ HL.out.laid HL.out.looks b off c t HN.out hl HS.out).mono ?_; rw [HD.out, HG.out]; rintro e w5 ⟨rfl, f5⟩)
        | (go_at_call 85; refine (hasNoRoot_some _ b off c t (HN.out.kept f5 (by simp))).mono ?_; rw [HR.out]; rintro e w6 ⟨rfl, f6⟩))
          go_ret
          exact ⟨rfl, f5.trans f6⟩
theorem check_some (w : World) (L : LaidW w) (b off c : Nat) (t : List Nd) (hN : NodesIn w b off t) (hS : Sane t) :
    Calls Tryz.prog 13 #[.slice (some ⟨b, off, none⟩) t.length c] w fun e w' => e = .returned (.int .i64 (judged t (oneB t) : Nat)) ∧ Fr [] w w' := by
  have J := Hid.mk (judge_one w L b off c t hN hS)
  generalize judged t (oneB t) = A at J ⊢
  clear L hN hS
  go_enter Tryz.func13, Tryz.ntmps13
  go_wp2_with (go_at_call 33; refine J.out.mono ?_; rintro e w5 ⟨rfl, f5⟩)
  go_ret
  exact ⟨rfl, f5⟩
theorem frag_some (w : World) (L : LaidW w) (b off c : Nat) (t : List Nd) (hN : NodesIn w b off t) (hS : Sane t) :
    Calls Tryz.prog 53 #[.slice (some ⟨b, off, none⟩) t.length c] w fun e w' => e = .returned (.int .i64 (judged t (noB t) : Nat)) ∧ Fr [] w w' := by
  have J := Hid.mk (judge_no w L b off c t hN hS)
  generalize judged t (noB t) = A at J ⊢
  clear L hN hS
  go_enter Tryz.func53, Tryz.ntmps53
  go_wp2_with (go_at_call 33; refine J.out.mono ?_; rintro e w5 ⟨rfl, f5⟩)
  go_ret
  exact ⟨rfl, f5⟩
end Go.Proofs.YtdfgmdddnehocabGreatDoor
