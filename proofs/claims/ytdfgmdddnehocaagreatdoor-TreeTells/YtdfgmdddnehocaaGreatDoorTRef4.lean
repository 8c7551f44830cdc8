/-
  The document's own answer: Check and Fragment.
-/
import Derived.Test.YtdfgmdddnehocaaGreatDoorXRefA
import Derived.Test.YtdfgmdddnehocaaGreatDoorXOpen
namespace Go.Proofs.YtdfgmdddnehocaaGreatDoor
open Go.RowKit Go.Maps Go.Lib

theorem deep_succ (t : List Nd) (i : Nat) : decide (60 < deepest t (i + 1)) = (decide (60 < deepest t i) || (decide (knd t i = 2) && decide (60 < dep t i))) := by
  rw [Bool.eq_iff_iff, Bool.or_eq_true, Bool.and_eq_true, decide_eq_true_iff, decide_eq_true_iff, decide_eq_true_iff, decide_eq_true_iff]
  show 60 < (if knd t i = 2 then max (deepest t i) (dep t i) else deepest t i) ↔ _
  by_cases h : knd t i = 2
  · rw [if_pos h]; omega
  · rw [if_neg h]; omega
theorem judged_bad {t : List Nd} {r : Bool} (hl : t.length ≤ 16384) (h : (goodB t t.length && r) = false) : judged t r = 4 := by
  unfold judged
  rw [if_neg (by omega), if_pos h]
theorem judged_good {t : List Nd} {r : Bool} (hl : t.length ≤ 16384) (h : (goodB t t.length && r) = true) : judged t r = if 60 < deepest t t.length then 131 else 0 := by
  unfold judged
  rw [if_neg (by omega), if_neg (by rw [h]; decide)]
theorem goodF_no {t : List Nd} {i : Nat} (hi : i < t.length) (h : fitB t i = false) : goodB t t.length = false := by
  cases hg : goodB t t.length with
  | false => rfl
  | true =>
    have := ((goodB_iff t _).1 hg i hi).2
    have h2 : fitB t i = true := decide_eq_true this
    rw [h] at h2
    exact absurd h2 (by decide)
def rootsB (t : List Nd) (r : Bool) : Bool := if r then oneB t else noB t
theorem roots_no {t : List Nd} {r : Bool} (h : ¬ (knd t 0 = 1 ↔ r = true)) : rootsB t r = false := by
  unfold rootsB oneB noB
  cases r with
  | true =>
    rw [if_pos rfl]
    have : ¬ knd t 0 = 1 := fun e => h ⟨fun _ => rfl, fun _ => e⟩
    rw [decide_eq_false this]
    rfl
  | false =>
    rw [if_neg (by decide)]
    have : knd t 0 = 1 := Classical.byContradiction fun e => h ⟨fun x => absurd x e, fun x => absurd x (by decide)⟩
    exact decide_eq_false (by omega)
set_option maxHeartbeats 80000000 in
set_option maxRecDepth 100000 in
theorem refcheck_some (w : World) (b off c : Nat) (t : List Nd) (hN : NodesIn w b off t) (hl : t.length ≤ 300) (r : Bool)
    (cF : Hid (∀ i, i < t.length → Upto t i → Ord t i → ∀ w', Fr [] w w' → Calls Tryz.prog 61 #[.slice (some ⟨b, off, none⟩) t.length c, .int .i64 (i : Int)] w' fun e w'' => e = .returned (.bool (fitB t i)) ∧ Fr [] w' w'')) :
    Calls Tryz.prog 55 #[.slice (some ⟨b, off, none⟩) t.length c, .bool r] w fun e w' => e = .returned (.int .i64 (judged t (rootsB t r) : Nat)) ∧ Fr [] w w' := by
  have HN := Hid.mk hN
  have hl1 : ¬ (16384 : Int) < (t.length : Int) := by omega
  obtain ⟨J, HJ⟩ : ∃ J, Hid (judged t (rootsB t r) = J) := ⟨_, rfl⟩
  rw [HJ.out]
  have cO := Hid.mk (refOrd_some w b off c t hN (by omega))
  cases hO : ordsTo t t.length with
  | false =>
    rw [hO] at cO
    have e : J = 4 := by
      rw [← HJ.out]
      unfold judged
      have hg : goodB t t.length = false := by
        cases hg : goodB t t.length with
        | false => rfl
        | true =>
          have := (ordsTo_iff t t.length).2 (fun i hi => ((goodB_iff t _).1 hg i hi).1)
          rw [hO] at this
          exact absurd this (by decide)
      rw [if_neg (by omega), hg, Bool.false_and, if_pos rfl]
    subst e
    clear hN HJ hO
    go_enter Tryz.func55, Tryz.ntmps55
    go_wp2_with (go_at_call 60; refine (cO.out).mono ?_; rintro e w5 ⟨rfl, h5⟩; have h5' := h5.symm; subst h5')
    go_ret
    exact ⟨rfl, Fr.refl _ _⟩
  | true =>
    rw [hO] at cO
    have HO : Hid (∀ i, i < t.length → Ord t i) := (ordsTo_iff t _).1 hO
    clear hN hO
    go_enter Tryz.func55, Tryz.ntmps55
    go_wp2_with (go_at_call 60; refine (cO.out).mono ?_; rintro e w5 ⟨rfl, h5⟩; have h5' := h5.symm; subst h5')
    go_loopw [5, 6, 7, 8] (fun s5 s6 s7 s8 wr => ∃ (A E i : Nat) (D : Bool), s5 = .int .i64 (A : Int) ∧ s6 = .int .i64 (E : Int) ∧ s7 = .bool D ∧ s8 = .int .i64 (i : Int) ∧ i ≤ t.length ∧ A ≤ i ∧ E ≤ i ∧ Hid ((t.take i).countP (fun n => decide (n.parent < 0)) = A) ∧ Hid ((t.take i).countP (fun n => decide (n.parent = 0 ∧ n.kind = 2)) = E) ∧ Hid (decide (60 < deepest t i) = D) ∧ Hid (Upto t i) ∧ Hid (0 < i → (knd t 0 = 1 ↔ r = true)) ∧ Hid (Fr [] w wr)) (fun _ _ _ s8 _ => t.length - (RowKit.intOf s8).toNat)
    case atStart => exact ⟨0, 0, 0, false, rfl, rfl, rfl, rfl, Nat.zero_le _, Nat.le_refl _, Nat.le_refl _, rfl, rfl, rfl, (fun i hi => by omega), (fun h => by omega), Fr.refl _ _⟩
    case round =>
      obtain ⟨A, E, i, D, rfl, rfl, rfl, rfl, hil, hAi, hEi, hA, hE, hD, hU, hRt, frh⟩ := hrel
      have hi0 : (0 : Int) ≤ (i : Int) := by omega
      by_cases hlt : i < t.length
      · have hlt' : (i : Int) < (t.length : Int) := by omega
        have cFi := Hid.mk (cF.out i hlt hU.out (HO.out i hlt))
        have ho1 := (HO.out i hlt).1
        have ho2 := (HO.out i hlt).2.1
        have hA' := take_count (fun n => decide (n.parent < 0)) t i hlt
        have hE' := take_count (fun n => decide (n.parent = 0 ∧ n.kind = 2)) t i hlt
        have hD' := deep_succ t i
        rw [hA.out] at hA'
        rw [hE.out] at hE'
        rw [hD.out] at hD'
        simp only [decide_eq_true_eq] at hA' hE'
        change _ = A + (if par t i < 0 then 1 else 0) at hA'
        change _ = E + (if par t i = 0 ∧ knd t i = 2 then 1 else 0) at hE'
        obtain ⟨K, hK⟩ : ∃ K, knd t i = K := ⟨_, rfl⟩
        obtain ⟨q, hq⟩ : ∃ q, par t i = q := ⟨_, rfl⟩
        obtain ⟨DP, hDP⟩ : ∃ q, dep t i = q := ⟨_, rfl⟩
        have HK := Hid.mk hK
        have HPp := Hid.mk hq
        have HD := Hid.mk hDP
        rw [hK, hDP] at hD'
        rw [hK, hq] at hE'
        rw [hq] at hA' ho1 ho2
        cases hF : fitB t i with
        | false =>
          rw [hF] at cFi
          have e : J = 4 := by rw [← HJ.out]; exact judged_bad (by omega) (by rw [goodF_no hlt hF, Bool.false_and])
          subst e
          clear HJ hA' hE' hD' hK hq hDP hF hRt hU hA hE hD
          go_wp2_with (first
            | (go_at_call 61; refine (cFi.out wr frh.out).mono ?_; rintro e w6 ⟨rfl, f6⟩; have fr6 := Hid.mk (frh.out.trans f6); obtain ⟨c0, c1, c2, c3⟩ := (HN.out.kept fr6.out (by simp)) i hlt; rw [HK.out] at c0; rw [HPp.out] at c3; clear c1 c2)
            | (go_at_call 62; refine (refDeep_any _ b off c t (HN.out.kept fr6.out (by simp)) (by omega) i hlt (fun j hj => HO.out j (by omega))).mono ?_; rw [HD.out]; rintro e w7 ⟨rfl, h7⟩; have h7' := h7.symm; subst h7'))
          go_ret
          exact ⟨rfl, fr6.out⟩
        | true =>
          rw [hF] at cFi
          have ft : Fit t i := of_decide_eq_true hF
          have hUs : Hid (Upto t (i + 1)) := hU.out.succ (HO.out i hlt) ft
          have hK1 : K = 1 → i = 0 := fun e => by
            rcases ft.2 with f | f | f | f | f | f
            · exact f.2.1
            · have := f.1; omega
            · have := f.1; omega
            · have := f.1; omega
            · have := f.1; omega
            · have := f.1; omega
          by_cases hgood : i = 0 → (K = 1 ↔ r = true)
          · have hRs : Hid (0 < i + 1 → (knd t 0 = 1 ↔ r = true)) := fun _ => by
              by_cases h0 : i = 0
              · have := hgood h0
                rw [← hK, h0] at this
                exact this
              · exact hRt.out (by omega)
            clear ft hF hU hRt
            by_cases k1 : K = 1
            · have hi1 := hK1 k1
              have hr : r = true := (hgood hi1).1 k1
              have hib : ((i : Int) == 0) = true := by rw [beq_iff_eq]; omega
              subst hr
              subst k1
              have hp : q < 0 := by omega
              clear hi1
              rw [if_pos hp] at hA'
              rw [if_neg (by omega)] at hE'
              rw [decide_eq_false (by decide : ¬ (1 : Nat) = 2), Bool.false_and, Bool.or_false] at hD'
              have HA' := Hid.mk hA'
              have HE' := Hid.mk hE'
              have HDD := Hid.mk hD'
              clear hA' hE' hD' hK hq hDP hA hE hD hgood hK1
              have hpb : (q == 0) = false := by rw [beq_eq_false_iff_ne]; omega
              go_wp2_with (first
                | (go_at_call 61; refine (cFi.out wr frh.out).mono ?_; rintro e w6 ⟨rfl, f6⟩; have fr6 := Hid.mk (frh.out.trans f6); obtain ⟨c0, c1, c2, c3⟩ := (HN.out.kept fr6.out (by simp)) i hlt; rw [HK.out] at c0; rw [HPp.out] at c3; clear c1 c2)
                | (go_at_call 62; refine (refDeep_any _ b off c t (HN.out.kept fr6.out (by simp)) (by omega) i hlt (fun j hj => HO.out j (by omega))).mono ?_; rw [HD.out]; rintro e w7 ⟨rfl, h7⟩; have h7' := h7.symm; subst h7'))
              exact ⟨⟨A + 1, E, i + 1, D, by go_num, by go_num, rfl, by go_num, by omega, by omega, by omega, HA', HE', HDD, hUs, hRs, fr6⟩, by simp [RowKit.intOf]; omega⟩
            · have k1b : ((K : Int) == 1) = false := by rw [beq_eq_false_iff_ne]; omega
              have hri : Hid (r = false ∨ (r = true ∧ ((i : Int) == 0) = false)) := by
                cases r with
                | false => exact Or.inl rfl
                | true =>
                  refine Or.inr ⟨rfl, ?_⟩
                  rw [beq_eq_false_iff_ne]
                  intro h
                  exact k1 ((hgood (by omega)).2 rfl)
              rcases hri.out with rfl | ⟨rfl, hib⟩
              all_goals
                by_cases k2 : K = 2
                · subst k2
                  rw [decide_eq_true rfl, Bool.true_and] at hD'
                  by_cases hdp : 60 < DP
                  · have hdp' : (60 : Int) < (DP : Int) := by omega
                    rw [decide_eq_true hdp, Bool.or_true] at hD'
                    by_cases hp : q < 0
                    · rw [if_pos hp] at hA'
                      rw [if_neg (by omega)] at hE'
                      have HA' := Hid.mk hA'
                      have HE' := Hid.mk hE'
                      have HDD := Hid.mk hD'
                      clear hA' hE' hD' hK hq hDP hA hE hD hgood hK1
                      have hpb : (q == 0) = false := by rw [beq_eq_false_iff_ne]; omega
                      go_wp2_with (first
                        | (go_at_call 61; refine (cFi.out wr frh.out).mono ?_; rintro e w6 ⟨rfl, f6⟩; have fr6 := Hid.mk (frh.out.trans f6); obtain ⟨c0, c1, c2, c3⟩ := (HN.out.kept fr6.out (by simp)) i hlt; rw [HK.out] at c0; rw [HPp.out] at c3; clear c1 c2)
                        | (go_at_call 62; refine (refDeep_any _ b off c t (HN.out.kept fr6.out (by simp)) (by omega) i hlt (fun j hj => HO.out j (by omega))).mono ?_; rw [HD.out]; rintro e w7 ⟨rfl, h7⟩; have h7' := h7.symm; subst h7'))
                      exact ⟨⟨A + 1, E, i + 1, true, by go_num, by go_num, rfl, by go_num, by omega, by omega, by omega, HA', HE', HDD, hUs, hRs, fr6⟩, by simp [RowKit.intOf]; omega⟩
                    · rw [if_neg hp] at hA'
                      by_cases hp0 : q = 0
                      · subst hp0
                        rw [if_pos ⟨rfl, rfl⟩] at hE'
                        have HA' := Hid.mk hA'
                        have HE' := Hid.mk hE'
                        have HDD := Hid.mk hD'
                        clear hA' hE' hD' hK hq hDP hA hE hD hgood hK1
                        go_wp2_with (first
                          | (go_at_call 61; refine (cFi.out wr frh.out).mono ?_; rintro e w6 ⟨rfl, f6⟩; have fr6 := Hid.mk (frh.out.trans f6); obtain ⟨c0, c1, c2, c3⟩ := (HN.out.kept fr6.out (by simp)) i hlt; rw [HK.out] at c0; rw [HPp.out] at c3; clear c1 c2)
                          | (go_at_call 62; refine (refDeep_any _ b off c t (HN.out.kept fr6.out (by simp)) (by omega) i hlt (fun j hj => HO.out j (by omega))).mono ?_; rw [HD.out]; rintro e w7 ⟨rfl, h7⟩; have h7' := h7.symm; subst h7'))
                        exact ⟨⟨A, E + 1, i + 1, true, by go_num, by go_num, rfl, by go_num, by omega, by omega, by omega, HA', HE', HDD, hUs, hRs, fr6⟩, by simp [RowKit.intOf]; omega⟩
                      · rw [if_neg (fun h => hp0 h.1)] at hE'
                        have hpb : (q == 0) = false := by rw [beq_eq_false_iff_ne]; exact hp0
                        have HA' := Hid.mk hA'
                        have HE' := Hid.mk hE'
                        have HDD := Hid.mk hD'
                        clear hA' hE' hD' hK hq hDP hA hE hD hgood hK1
                        go_wp2_with (first
                          | (go_at_call 61; refine (cFi.out wr frh.out).mono ?_; rintro e w6 ⟨rfl, f6⟩; have fr6 := Hid.mk (frh.out.trans f6); obtain ⟨c0, c1, c2, c3⟩ := (HN.out.kept fr6.out (by simp)) i hlt; rw [HK.out] at c0; rw [HPp.out] at c3; clear c1 c2)
                          | (go_at_call 62; refine (refDeep_any _ b off c t (HN.out.kept fr6.out (by simp)) (by omega) i hlt (fun j hj => HO.out j (by omega))).mono ?_; rw [HD.out]; rintro e w7 ⟨rfl, h7⟩; have h7' := h7.symm; subst h7'))
                        exact ⟨⟨A, E, i + 1, true, by go_num, by go_num, rfl, by go_num, by omega, by omega, by omega, HA', HE', HDD, hUs, hRs, fr6⟩, by simp [RowKit.intOf]; omega⟩
                  · have hdp' : ¬ (60 : Int) < (DP : Int) := by omega
                    rw [decide_eq_false hdp, Bool.or_false] at hD'
                    by_cases hp : q < 0
                    · rw [if_pos hp] at hA'
                      rw [if_neg (by omega)] at hE'
                      have HA' := Hid.mk hA'
                      have HE' := Hid.mk hE'
                      have HDD := Hid.mk hD'
                      clear hA' hE' hD' hK hq hDP hA hE hD hgood hK1
                      have hpb : (q == 0) = false := by rw [beq_eq_false_iff_ne]; omega
                      go_wp2_with (first
                        | (go_at_call 61; refine (cFi.out wr frh.out).mono ?_; rintro e w6 ⟨rfl, f6⟩; have fr6 := Hid.mk (frh.out.trans f6); obtain ⟨c0, c1, c2, c3⟩ := (HN.out.kept fr6.out (by simp)) i hlt; rw [HK.out] at c0; rw [HPp.out] at c3; clear c1 c2)
                        | (go_at_call 62; refine (refDeep_any _ b off c t (HN.out.kept fr6.out (by simp)) (by omega) i hlt (fun j hj => HO.out j (by omega))).mono ?_; rw [HD.out]; rintro e w7 ⟨rfl, h7⟩; have h7' := h7.symm; subst h7'))
                      exact ⟨⟨A + 1, E, i + 1, D, by go_num, by go_num, rfl, by go_num, by omega, by omega, by omega, HA', HE', HDD, hUs, hRs, fr6⟩, by simp [RowKit.intOf]; omega⟩
                    · rw [if_neg hp] at hA'
                      by_cases hp0 : q = 0
                      · subst hp0
                        rw [if_pos ⟨rfl, rfl⟩] at hE'
                        have HA' := Hid.mk hA'
                        have HE' := Hid.mk hE'
                        have HDD := Hid.mk hD'
                        clear hA' hE' hD' hK hq hDP hA hE hD hgood hK1
                        go_wp2_with (first
                          | (go_at_call 61; refine (cFi.out wr frh.out).mono ?_; rintro e w6 ⟨rfl, f6⟩; have fr6 := Hid.mk (frh.out.trans f6); obtain ⟨c0, c1, c2, c3⟩ := (HN.out.kept fr6.out (by simp)) i hlt; rw [HK.out] at c0; rw [HPp.out] at c3; clear c1 c2)
                          | (go_at_call 62; refine (refDeep_any _ b off c t (HN.out.kept fr6.out (by simp)) (by omega) i hlt (fun j hj => HO.out j (by omega))).mono ?_; rw [HD.out]; rintro e w7 ⟨rfl, h7⟩; have h7' := h7.symm; subst h7'))
                        exact ⟨⟨A, E + 1, i + 1, D, by go_num, by go_num, rfl, by go_num, by omega, by omega, by omega, HA', HE', HDD, hUs, hRs, fr6⟩, by simp [RowKit.intOf]; omega⟩
                      · rw [if_neg (fun h => hp0 h.1)] at hE'
                        have hpb : (q == 0) = false := by rw [beq_eq_false_iff_ne]; exact hp0
                        have HA' := Hid.mk hA'
                        have HE' := Hid.mk hE'
                        have HDD := Hid.mk hD'
                        clear hA' hE' hD' hK hq hDP hA hE hD hgood hK1
                        go_wp2_with (first
                          | (go_at_call 61; refine (cFi.out wr frh.out).mono ?_; rintro e w6 ⟨rfl, f6⟩; have fr6 := Hid.mk (frh.out.trans f6); obtain ⟨c0, c1, c2, c3⟩ := (HN.out.kept fr6.out (by simp)) i hlt; rw [HK.out] at c0; rw [HPp.out] at c3; clear c1 c2)
                          | (go_at_call 62; refine (refDeep_any _ b off c t (HN.out.kept fr6.out (by simp)) (by omega) i hlt (fun j hj => HO.out j (by omega))).mono ?_; rw [HD.out]; rintro e w7 ⟨rfl, h7⟩; have h7' := h7.symm; subst h7'))
                        exact ⟨⟨A, E, i + 1, D, by go_num, by go_num, rfl, by go_num, by omega, by omega, by omega, HA', HE', HDD, hUs, hRs, fr6⟩, by simp [RowKit.intOf]; omega⟩
                · have k2b : ((K : Int) == 2) = false := by rw [beq_eq_false_iff_ne]; omega
                  rw [decide_eq_false k2, Bool.false_and, Bool.or_false] at hD'
                  rw [if_neg (fun h => k2 h.2)] at hE'
                  by_cases hp : q < 0
                  · rw [if_pos hp] at hA'
                    have HA' := Hid.mk hA'
                    have HE' := Hid.mk hE'
                    have HDD := Hid.mk hD'
                    clear hA' hE' hD' hK hq hDP hA hE hD hgood hK1
                    have hpb : (q == 0) = false := by rw [beq_eq_false_iff_ne]; omega
                    go_wp2_with (first
                      | (go_at_call 61; refine (cFi.out wr frh.out).mono ?_; rintro e w6 ⟨rfl, f6⟩; have fr6 := Hid.mk (frh.out.trans f6); obtain ⟨c0, c1, c2, c3⟩ := (HN.out.kept fr6.out (by simp)) i hlt; rw [HK.out] at c0; rw [HPp.out] at c3; clear c1 c2)
                      | (go_at_call 62; refine (refDeep_any _ b off c t (HN.out.kept fr6.out (by simp)) (by omega) i hlt (fun j hj => HO.out j (by omega))).mono ?_; rw [HD.out]; rintro e w7 ⟨rfl, h7⟩; have h7' := h7.symm; subst h7'))
                    exact ⟨⟨A + 1, E, i + 1, D, by go_num, by go_num, rfl, by go_num, by omega, by omega, by omega, HA', HE', HDD, hUs, hRs, fr6⟩, by simp [RowKit.intOf]; omega⟩
                  · rw [if_neg hp] at hA'
                    by_cases hp0 : q = 0
                    · subst hp0
                      have HA' := Hid.mk hA'
                      have HE' := Hid.mk hE'
                      have HDD := Hid.mk hD'
                      clear hA' hE' hD' hK hq hDP hA hE hD hgood hK1
                      go_wp2_with (first
                        | (go_at_call 61; refine (cFi.out wr frh.out).mono ?_; rintro e w6 ⟨rfl, f6⟩; have fr6 := Hid.mk (frh.out.trans f6); obtain ⟨c0, c1, c2, c3⟩ := (HN.out.kept fr6.out (by simp)) i hlt; rw [HK.out] at c0; rw [HPp.out] at c3; clear c1 c2)
                        | (go_at_call 62; refine (refDeep_any _ b off c t (HN.out.kept fr6.out (by simp)) (by omega) i hlt (fun j hj => HO.out j (by omega))).mono ?_; rw [HD.out]; rintro e w7 ⟨rfl, h7⟩; have h7' := h7.symm; subst h7'))
                      exact ⟨⟨A, E, i + 1, D, by go_num, by go_num, rfl, by go_num, by omega, by omega, by omega, HA', HE', HDD, hUs, hRs, fr6⟩, by simp [RowKit.intOf]; omega⟩
                    · have hpb : (q == 0) = false := by rw [beq_eq_false_iff_ne]; exact hp0
                      have HA' := Hid.mk hA'
                      have HE' := Hid.mk hE'
                      have HDD := Hid.mk hD'
                      clear hA' hE' hD' hK hq hDP hA hE hD hgood hK1
                      go_wp2_with (first
                        | (go_at_call 61; refine (cFi.out wr frh.out).mono ?_; rintro e w6 ⟨rfl, f6⟩; have fr6 := Hid.mk (frh.out.trans f6); obtain ⟨c0, c1, c2, c3⟩ := (HN.out.kept fr6.out (by simp)) i hlt; rw [HK.out] at c0; rw [HPp.out] at c3; clear c1 c2)
                        | (go_at_call 62; refine (refDeep_any _ b off c t (HN.out.kept fr6.out (by simp)) (by omega) i hlt (fun j hj => HO.out j (by omega))).mono ?_; rw [HD.out]; rintro e w7 ⟨rfl, h7⟩; have h7' := h7.symm; subst h7'))
                      exact ⟨⟨A, E, i + 1, D, by go_num, by go_num, rfl, by go_num, by omega, by omega, by omega, HA', HE', HDD, hUs, hRs, fr6⟩, by simp [RowKit.intOf]; omega⟩
          · obtain ⟨hi1, hb⟩ : i = 0 ∧ ¬ (K = 1 ↔ r = true) := ⟨Classical.byContradiction fun h => hgood (fun e => absurd e h), fun h => hgood (fun _ => h)⟩
            have e : J = 4 := by rw [← HJ.out]; exact judged_bad (by omega) (by rw [roots_no (by rw [← hi1, hK]; exact hb), Bool.and_false])
            have hib : ((i : Int) == 0) = true := by rw [beq_iff_eq]; omega
            subst e
            clear HJ hA' hE' hD' hK hq hDP hF hRt hU hA hE hD ft hUs hgood hi1
            cases r with
            | true =>
              have kb : ((K : Int) == 1) = false := by rw [beq_eq_false_iff_ne]; intro h; exact hb ⟨fun _ => rfl, fun _ => by omega⟩
              clear hb hK1
              go_wp2_with (first
                | (go_at_call 61; refine (cFi.out wr frh.out).mono ?_; rintro e w6 ⟨rfl, f6⟩; have fr6 := Hid.mk (frh.out.trans f6); obtain ⟨c0, c1, c2, c3⟩ := (HN.out.kept fr6.out (by simp)) i hlt; rw [HK.out] at c0; rw [HPp.out] at c3; clear c1 c2)
                | (go_at_call 62; refine (refDeep_any _ b off c t (HN.out.kept fr6.out (by simp)) (by omega) i hlt (fun j hj => HO.out j (by omega))).mono ?_; rw [HD.out]; rintro e w7 ⟨rfl, h7⟩; have h7' := h7.symm; subst h7'))
              go_ret
              exact ⟨rfl, fr6.out⟩
            | false =>
              have kb : K = 1 := Classical.byContradiction fun h => hb ⟨fun x => absurd x h, fun x => absurd x (by decide)⟩
              subst kb
              clear hb hK1
              go_wp2_with (first
                | (go_at_call 61; refine (cFi.out wr frh.out).mono ?_; rintro e w6 ⟨rfl, f6⟩; have fr6 := Hid.mk (frh.out.trans f6); obtain ⟨c0, c1, c2, c3⟩ := (HN.out.kept fr6.out (by simp)) i hlt; rw [HK.out] at c0; rw [HPp.out] at c3; clear c1 c2)
                | (go_at_call 62; refine (refDeep_any _ b off c t (HN.out.kept fr6.out (by simp)) (by omega) i hlt (fun j hj => HO.out j (by omega))).mono ?_; rw [HD.out]; rintro e w7 ⟨rfl, h7⟩; have h7' := h7.symm; subst h7'))
              go_ret
              exact ⟨rfl, fr6.out⟩
      · obtain rfl : i = t.length := by omega
        have eA : tops t = A := by have := hA.out; rwa [List.take_length] at this
        have eE : elems t = E := by have := hE.out; rwa [List.take_length] at this
        have hg : goodB t t.length = true := (goodB_iff t _).2 hU.out
        have HJ' : Hid (judged t (rootsB t r) = J) := HJ
        have hroot : Hid (rootsB t r = true ↔ (r = true → A = 1 ∧ E = 1)) := by
          show _ ↔ _
          have h0 : 0 < t.length → (knd t 0 = 1 ↔ r = true) := hRt.out
          have hz : t.length = 0 → knd t 0 ≠ 1 ∧ A = 0 := fun e => by
            refine ⟨?_, by omega⟩
            unfold knd
            rw [nth_ge (by omega)]
            decide
          unfold rootsB oneB noB
          cases r with
          | true =>
            rw [if_pos rfl, Bool.and_eq_true, Bool.and_eq_true, decide_eq_true_iff, decide_eq_true_iff, decide_eq_true_iff, eA, eE]
            constructor
            · intro h _; exact h.2
            · intro h
              have h2 := h rfl
              refine ⟨?_, h2⟩
              by_cases e : t.length = 0
              · have := (hz e).2; omega
              · exact (h0 (by omega)).2 rfl
          | false =>
            rw [if_neg (by decide), decide_eq_true_iff]
            constructor
            · intro _ h; exact absurd h (by decide)
            · intro _ e
              by_cases e0 : t.length = 0
              · exact (hz e0).1 e
              · exact absurd ((h0 (by omega)).1 e) (by decide)
        have bad : rootsB t r = false → J = 4 := fun h => by rw [← HJ.out]; exact judged_bad (by omega) (by rw [h, Bool.and_false])
        have gd : rootsB t r = true → J = if D = true then 131 else 0 := fun h => by
          rw [← HJ.out, judged_good (by omega) (by rw [hg, h]; rfl), ← hD.out]
          simp only [decide_eq_true_eq]
        clear HJ HJ' hg hA hE hD hU hRt
        cases r with
        | false =>
          have e := gd (hroot.out.2 (fun h => absurd h (by decide)))
          cases D with
          | true =>
            rw [if_pos rfl] at e
            subst e
            clear gd bad hroot
            go_wp2_with fail
            go_ret
            exact ⟨rfl, frh.out⟩
          | false =>
            rw [if_neg (by decide)] at e
            subst e
            clear gd bad hroot
            go_wp2_with fail
            go_ret
            exact ⟨rfl, frh.out⟩
        | true =>
          by_cases h1 : A = 1
          · by_cases h2 : E = 1
            · have e := gd (hroot.out.2 (fun _ => ⟨h1, h2⟩))
              subst h1
              subst h2
              cases D with
              | true =>
                rw [if_pos rfl] at e
                subst e
                clear gd bad hroot
                go_wp2_with fail
                go_ret
                exact ⟨rfl, frh.out⟩
              | false =>
                rw [if_neg (by decide)] at e
                subst e
                clear gd bad hroot
                go_wp2_with fail
                go_ret
                exact ⟨rfl, frh.out⟩
            · have e := bad (by cases hb : rootsB t true with | false => rfl | true => exact absurd (hroot.out.1 hb rfl).2 h2)
              have h2b : ((E : Int) != 1) = true := by rw [bne_iff_ne]; omega
              subst e
              subst h1
              clear gd bad hroot
              go_wp2_with fail
              go_ret
              exact ⟨rfl, frh.out⟩
          · have e := bad (by cases hb : rootsB t true with | false => rfl | true => exact absurd (hroot.out.1 hb rfl).1 h1)
            have h1b : ((A : Int) != 1) = true := by rw [bne_iff_ne]; omega
            subst e
            clear gd bad hroot
            go_wp2_with fail
            go_ret
            exact ⟨rfl, frh.out⟩
end Go.Proofs.YtdfgmdddnehocaaGreatDoor
