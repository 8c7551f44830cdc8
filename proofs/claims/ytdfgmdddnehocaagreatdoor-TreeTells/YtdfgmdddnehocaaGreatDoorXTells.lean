/-
  TreeTells: the walk.
-/
import Derived.Test.YtdfgmdddnehocaaGreatDoorXTell
import Derived.Test.YtdfgmdddnehocaaGreatDoorTChk
namespace Go.Proofs.YtdfgmdddnehocaaGreatDoor
open Go.RowKit Go.Maps Go.Lib

/-- What a test takes. -/
def takesB (K : Nat) (NM : ByteArray) (ax ts : Int) (nm : ByteArray) : Bool :=
  if ts = 1 then true else if ts = 2 then ((K : Int) == (if ax = 9 then 3 else 2)) && (NM.toList == nm.toList) else if ts = 3 then ((K : Int) == (if ax = 9 then 3 else 2)) else if ts = 4 then ((K : Int) == 4) else if ts = 5 then ((K : Int) == 5) else if ts = 6 then ((K : Int) == 6) && (nm.toList.isEmpty || (NM.toList == nm.toList)) else false
def takesS (t : List Nd) (k : Int) (ax ts : Int) (nm : ByteArray) : Bool := if hasB t k = true then takesB (knd t k.toNat) (nam t k.toNat) ax ts nm else false
set_option maxHeartbeats 16000000 in
set_option maxRecDepth 100000 in
theorem Takes_any (w : World) (L : LaidW w) (ad : Option Addr) (c n : Nat) (t : List Nd) (hn : t.length = n) (hN : NodesAt w ad t) (hS : Sane t) (k ax ts : Int) (nm : ByteArray) :
    Calls Tryz.prog 18 #[.slice ad n c, .int .i64 k, .int .u8 ax, .int .u8 ts, .string nm] w fun e w' => e = .returned (.bool (takesS t k ax ts nm)) ∧ Fr [] w w' := by
  unfold takesS
  have cH := Hid.mk (has_any w L ad c n t hn hN hS k)
  cases hh : hasB t k with
  | false =>
    rw [hh] at cH
    rw [if_neg (by decide)]
    clear hN hh
    go_enter Tryz.func18, Tryz.ntmps18
    go_wp2_with (go_at_call 25; refine cH.out.mono ?_; rintro e w5 ⟨rfl, f5⟩)
    go_ret
    exact ⟨rfl, f5⟩
  | true =>
    rw [hh] at cH
    obtain ⟨m, rfl, hm, hl5, _⟩ := has_iff hh
    subst hn
    obtain ⟨b, off, rfl, hI⟩ := hN.in (by omega)
    rw [if_pos rfl, Int.toNat_natCast]
    have hm' : (m : Int) < (t.length : Int) := by omega
    have hm0 : (0 : Int) ≤ (m : Int) := by omega
    have HKK := Hid.mk (fun w' (f : Fr [] w w') => hI.kept f (by simp) m hm)
    generalize vlu t m = VL at HKK
    generalize nam t m = NM at HKK
    generalize par t m = p at HKK
    generalize knd t m = K at HKK
    clear hN hh hI
    by_cases h9 : ax = 9
    · subst h9
      by_cases h1 : ts = 1
      · subst h1
        have HT := Hid.mk (show takesB K NM 9 1 nm = true from by unfold takesB; rw [if_pos rfl])
        go_enter Tryz.func18, Tryz.ntmps18
        go_wp2_with (first
          | (go_at_call 25; refine cH.out.mono ?_; rintro e w5 ⟨rfl, f5⟩; obtain ⟨c0, c1, c2, c3⟩ := HKK.out _ f5)
          | (refine wp_alloc 41 rfl rfl _ zeroN _ rfl ?_; intro wa ga hga hca fa)
          | (refine wp_storeC 41 rfl _ _ rfl ga _ (ndC K NM VL p) rfl rfl hca infoN rfl (ndC_one _ _ _ _) ?_; intro wb hcb fb; have FB := Hid.mk (show Fr [] w wb from (f5.trans fa).then fb (fun j hj hm => (by simp at hm; have := f5.size; omega))); have n0 : wb.cell? ⟨ga, 0, none⟩ = some (.int .u8 (K : Int)) := hcb.cell 0; have n1 : wb.cell? ⟨ga, 1, none⟩ = some (.string NM) := hcb.cell 1; clear hca fa fb hcb c0 c1 c2 c3)
          | go_in)
        go_ret
        exact ⟨by rw [HT.out]; rfl, FB.out⟩
      by_cases h2 : ts = 2
      · subst h2
        cases hmn : ((K : Int) == 3) with
        | true =>
          have HT := Hid.mk (show takesB K NM 9 2 nm = (NM.toList == nm.toList) from by unfold takesB; rw [if_neg (show ¬ (2 : Int) = 1 by decide), if_pos rfl, if_pos rfl, hmn, Bool.true_and])
          go_enter Tryz.func18, Tryz.ntmps18
          go_wp2_with (first
            | (go_at_call 25; refine cH.out.mono ?_; rintro e w5 ⟨rfl, f5⟩; obtain ⟨c0, c1, c2, c3⟩ := HKK.out _ f5)
            | (refine wp_alloc 41 rfl rfl _ zeroN _ rfl ?_; intro wa ga hga hca fa)
            | (refine wp_storeC 41 rfl _ _ rfl ga _ (ndC K NM VL p) rfl rfl hca infoN rfl (ndC_one _ _ _ _) ?_; intro wb hcb fb; have FB := Hid.mk (show Fr [] w wb from (f5.trans fa).then fb (fun j hj hm => (by simp at hm; have := f5.size; omega))); have n0 : wb.cell? ⟨ga, 0, none⟩ = some (.int .u8 (K : Int)) := hcb.cell 0; have n1 : wb.cell? ⟨ga, 1, none⟩ = some (.string NM) := hcb.cell 1; clear hca fa fb hcb c0 c1 c2 c3)
            | go_in)
          go_ret
          exact ⟨by rw [HT.out]; rfl, FB.out⟩
        | false =>
          have HT := Hid.mk (show takesB K NM 9 2 nm = false from by unfold takesB; rw [if_neg (show ¬ (2 : Int) = 1 by decide), if_pos rfl, if_pos rfl, hmn, Bool.false_and])
          go_enter Tryz.func18, Tryz.ntmps18
          go_wp2_with (first
            | (go_at_call 25; refine cH.out.mono ?_; rintro e w5 ⟨rfl, f5⟩; obtain ⟨c0, c1, c2, c3⟩ := HKK.out _ f5)
            | (refine wp_alloc 41 rfl rfl _ zeroN _ rfl ?_; intro wa ga hga hca fa)
            | (refine wp_storeC 41 rfl _ _ rfl ga _ (ndC K NM VL p) rfl rfl hca infoN rfl (ndC_one _ _ _ _) ?_; intro wb hcb fb; have FB := Hid.mk (show Fr [] w wb from (f5.trans fa).then fb (fun j hj hm => (by simp at hm; have := f5.size; omega))); have n0 : wb.cell? ⟨ga, 0, none⟩ = some (.int .u8 (K : Int)) := hcb.cell 0; have n1 : wb.cell? ⟨ga, 1, none⟩ = some (.string NM) := hcb.cell 1; clear hca fa fb hcb c0 c1 c2 c3)
            | go_in)
          go_ret
          exact ⟨by rw [HT.out]; rfl, FB.out⟩
      by_cases h3 : ts = 3
      · subst h3
        have HT := Hid.mk (show takesB K NM 9 3 nm = ((K : Int) == 3) from by unfold takesB; rw [if_neg (show ¬ (3 : Int) = 1 by decide), if_neg (show ¬ (3 : Int) = 2 by decide), if_pos rfl, if_pos rfl])
        go_enter Tryz.func18, Tryz.ntmps18
        go_wp2_with (first
          | (go_at_call 25; refine cH.out.mono ?_; rintro e w5 ⟨rfl, f5⟩; obtain ⟨c0, c1, c2, c3⟩ := HKK.out _ f5)
          | (refine wp_alloc 41 rfl rfl _ zeroN _ rfl ?_; intro wa ga hga hca fa)
          | (refine wp_storeC 41 rfl _ _ rfl ga _ (ndC K NM VL p) rfl rfl hca infoN rfl (ndC_one _ _ _ _) ?_; intro wb hcb fb; have FB := Hid.mk (show Fr [] w wb from (f5.trans fa).then fb (fun j hj hm => (by simp at hm; have := f5.size; omega))); have n0 : wb.cell? ⟨ga, 0, none⟩ = some (.int .u8 (K : Int)) := hcb.cell 0; have n1 : wb.cell? ⟨ga, 1, none⟩ = some (.string NM) := hcb.cell 1; clear hca fa fb hcb c0 c1 c2 c3)
          | go_in)
        go_ret
        exact ⟨by rw [HT.out]; rfl, FB.out⟩
      by_cases h4 : ts = 4
      · subst h4
        have HT := Hid.mk (show takesB K NM 9 4 nm = ((K : Int) == 4) from by unfold takesB; rw [if_neg (show ¬ (4 : Int) = 1 by decide), if_neg (show ¬ (4 : Int) = 2 by decide), if_neg (show ¬ (4 : Int) = 3 by decide), if_pos rfl])
        go_enter Tryz.func18, Tryz.ntmps18
        go_wp2_with (first
          | (go_at_call 25; refine cH.out.mono ?_; rintro e w5 ⟨rfl, f5⟩; obtain ⟨c0, c1, c2, c3⟩ := HKK.out _ f5)
          | (refine wp_alloc 41 rfl rfl _ zeroN _ rfl ?_; intro wa ga hga hca fa)
          | (refine wp_storeC 41 rfl _ _ rfl ga _ (ndC K NM VL p) rfl rfl hca infoN rfl (ndC_one _ _ _ _) ?_; intro wb hcb fb; have FB := Hid.mk (show Fr [] w wb from (f5.trans fa).then fb (fun j hj hm => (by simp at hm; have := f5.size; omega))); have n0 : wb.cell? ⟨ga, 0, none⟩ = some (.int .u8 (K : Int)) := hcb.cell 0; have n1 : wb.cell? ⟨ga, 1, none⟩ = some (.string NM) := hcb.cell 1; clear hca fa fb hcb c0 c1 c2 c3)
          | go_in)
        go_ret
        exact ⟨by rw [HT.out]; rfl, FB.out⟩
      by_cases h5 : ts = 5
      · subst h5
        have HT := Hid.mk (show takesB K NM 9 5 nm = ((K : Int) == 5) from by unfold takesB; rw [if_neg (show ¬ (5 : Int) = 1 by decide), if_neg (show ¬ (5 : Int) = 2 by decide), if_neg (show ¬ (5 : Int) = 3 by decide), if_neg (show ¬ (5 : Int) = 4 by decide), if_pos rfl])
        go_enter Tryz.func18, Tryz.ntmps18
        go_wp2_with (first
          | (go_at_call 25; refine cH.out.mono ?_; rintro e w5 ⟨rfl, f5⟩; obtain ⟨c0, c1, c2, c3⟩ := HKK.out _ f5)
          | (refine wp_alloc 41 rfl rfl _ zeroN _ rfl ?_; intro wa ga hga hca fa)
          | (refine wp_storeC 41 rfl _ _ rfl ga _ (ndC K NM VL p) rfl rfl hca infoN rfl (ndC_one _ _ _ _) ?_; intro wb hcb fb; have FB := Hid.mk (show Fr [] w wb from (f5.trans fa).then fb (fun j hj hm => (by simp at hm; have := f5.size; omega))); have n0 : wb.cell? ⟨ga, 0, none⟩ = some (.int .u8 (K : Int)) := hcb.cell 0; have n1 : wb.cell? ⟨ga, 1, none⟩ = some (.string NM) := hcb.cell 1; clear hca fa fb hcb c0 c1 c2 c3)
          | go_in)
        go_ret
        exact ⟨by rw [HT.out]; rfl, FB.out⟩
      by_cases h6 : ts = 6
      · subst h6
        cases hmn : ((K : Int) == 6) with
        | true =>
          cases hem : nm.toList.isEmpty with
          | true =>
            have HT := Hid.mk (show takesB K NM 9 6 nm = true from by unfold takesB; rw [if_neg (show ¬ (6 : Int) = 1 by decide), if_neg (show ¬ (6 : Int) = 2 by decide), if_neg (show ¬ (6 : Int) = 3 by decide), if_neg (show ¬ (6 : Int) = 4 by decide), if_neg (show ¬ (6 : Int) = 5 by decide), if_pos rfl, hmn, hem, Bool.true_and, Bool.true_or])
            go_enter Tryz.func18, Tryz.ntmps18
            go_wp2_with (first
              | (go_at_call 25; refine cH.out.mono ?_; rintro e w5 ⟨rfl, f5⟩; obtain ⟨c0, c1, c2, c3⟩ := HKK.out _ f5)
              | (refine wp_alloc 41 rfl rfl _ zeroN _ rfl ?_; intro wa ga hga hca fa)
              | (refine wp_storeC 41 rfl _ _ rfl ga _ (ndC K NM VL p) rfl rfl hca infoN rfl (ndC_one _ _ _ _) ?_; intro wb hcb fb; have FB := Hid.mk (show Fr [] w wb from (f5.trans fa).then fb (fun j hj hm => (by simp at hm; have := f5.size; omega))); have n0 : wb.cell? ⟨ga, 0, none⟩ = some (.int .u8 (K : Int)) := hcb.cell 0; have n1 : wb.cell? ⟨ga, 1, none⟩ = some (.string NM) := hcb.cell 1; clear hca fa fb hcb c0 c1 c2 c3)
              | go_in)
            go_ret
            exact ⟨by rw [HT.out]; rfl, FB.out⟩
          | false =>
            have HT := Hid.mk (show takesB K NM 9 6 nm = (NM.toList == nm.toList) from by unfold takesB; rw [if_neg (show ¬ (6 : Int) = 1 by decide), if_neg (show ¬ (6 : Int) = 2 by decide), if_neg (show ¬ (6 : Int) = 3 by decide), if_neg (show ¬ (6 : Int) = 4 by decide), if_neg (show ¬ (6 : Int) = 5 by decide), if_pos rfl, hmn, hem, Bool.true_and, Bool.false_or])
            go_enter Tryz.func18, Tryz.ntmps18
            go_wp2_with (first
              | (go_at_call 25; refine cH.out.mono ?_; rintro e w5 ⟨rfl, f5⟩; obtain ⟨c0, c1, c2, c3⟩ := HKK.out _ f5)
              | (refine wp_alloc 41 rfl rfl _ zeroN _ rfl ?_; intro wa ga hga hca fa)
              | (refine wp_storeC 41 rfl _ _ rfl ga _ (ndC K NM VL p) rfl rfl hca infoN rfl (ndC_one _ _ _ _) ?_; intro wb hcb fb; have FB := Hid.mk (show Fr [] w wb from (f5.trans fa).then fb (fun j hj hm => (by simp at hm; have := f5.size; omega))); have n0 : wb.cell? ⟨ga, 0, none⟩ = some (.int .u8 (K : Int)) := hcb.cell 0; have n1 : wb.cell? ⟨ga, 1, none⟩ = some (.string NM) := hcb.cell 1; clear hca fa fb hcb c0 c1 c2 c3)
              | go_in)
            go_ret
            exact ⟨by rw [HT.out]; rfl, FB.out⟩
        | false =>
          have HT := Hid.mk (show takesB K NM 9 6 nm = false from by unfold takesB; rw [if_neg (show ¬ (6 : Int) = 1 by decide), if_neg (show ¬ (6 : Int) = 2 by decide), if_neg (show ¬ (6 : Int) = 3 by decide), if_neg (show ¬ (6 : Int) = 4 by decide), if_neg (show ¬ (6 : Int) = 5 by decide), if_pos rfl, hmn, Bool.false_and])
          go_enter Tryz.func18, Tryz.ntmps18
          go_wp2_with (first
            | (go_at_call 25; refine cH.out.mono ?_; rintro e w5 ⟨rfl, f5⟩; obtain ⟨c0, c1, c2, c3⟩ := HKK.out _ f5)
            | (refine wp_alloc 41 rfl rfl _ zeroN _ rfl ?_; intro wa ga hga hca fa)
            | (refine wp_storeC 41 rfl _ _ rfl ga _ (ndC K NM VL p) rfl rfl hca infoN rfl (ndC_one _ _ _ _) ?_; intro wb hcb fb; have FB := Hid.mk (show Fr [] w wb from (f5.trans fa).then fb (fun j hj hm => (by simp at hm; have := f5.size; omega))); have n0 : wb.cell? ⟨ga, 0, none⟩ = some (.int .u8 (K : Int)) := hcb.cell 0; have n1 : wb.cell? ⟨ga, 1, none⟩ = some (.string NM) := hcb.cell 1; clear hca fa fb hcb c0 c1 c2 c3)
            | go_in)
          go_ret
          exact ⟨by rw [HT.out]; rfl, FB.out⟩
      have g1 : (ts == 1) = false := by rw [beq_eq_false_iff_ne]; exact h1
      have g2 : (ts == 2) = false := by rw [beq_eq_false_iff_ne]; exact h2
      have g3 : (ts == 3) = false := by rw [beq_eq_false_iff_ne]; exact h3
      have g4 : (ts == 4) = false := by rw [beq_eq_false_iff_ne]; exact h4
      have g5 : (ts == 5) = false := by rw [beq_eq_false_iff_ne]; exact h5
      have g6 : (ts == 6) = false := by rw [beq_eq_false_iff_ne]; exact h6
      have HT := Hid.mk (show takesB K NM 9 ts nm = false from by unfold takesB; rw [if_neg h1, if_neg h2, if_neg h3, if_neg h4, if_neg h5, if_neg h6])
      clear h1 h2 h3 h4 h5 h6
      go_enter Tryz.func18, Tryz.ntmps18
      go_wp2_with (first
        | (go_at_call 25; refine cH.out.mono ?_; rintro e w5 ⟨rfl, f5⟩; obtain ⟨c0, c1, c2, c3⟩ := HKK.out _ f5)
        | (refine wp_alloc 41 rfl rfl _ zeroN _ rfl ?_; intro wa ga hga hca fa)
        | (refine wp_storeC 41 rfl _ _ rfl ga _ (ndC K NM VL p) rfl rfl hca infoN rfl (ndC_one _ _ _ _) ?_; intro wb hcb fb; have FB := Hid.mk (show Fr [] w wb from (f5.trans fa).then fb (fun j hj hm => (by simp at hm; have := f5.size; omega))); have n0 : wb.cell? ⟨ga, 0, none⟩ = some (.int .u8 (K : Int)) := hcb.cell 0; have n1 : wb.cell? ⟨ga, 1, none⟩ = some (.string NM) := hcb.cell 1; clear hca fa fb hcb c0 c1 c2 c3)
        | go_in)
      go_ret
      exact ⟨by rw [HT.out]; rfl, FB.out⟩
    · have h9b : (ax == 9) = false := by rw [beq_eq_false_iff_ne]; exact h9
      by_cases h1 : ts = 1
      · subst h1
        have HT := Hid.mk (show takesB K NM ax 1 nm = true from by unfold takesB; rw [if_pos rfl])
        clear h9
        go_enter Tryz.func18, Tryz.ntmps18
        go_wp2_with (first
          | (go_at_call 25; refine cH.out.mono ?_; rintro e w5 ⟨rfl, f5⟩; obtain ⟨c0, c1, c2, c3⟩ := HKK.out _ f5)
          | (refine wp_alloc 41 rfl rfl _ zeroN _ rfl ?_; intro wa ga hga hca fa)
          | (refine wp_storeC 41 rfl _ _ rfl ga _ (ndC K NM VL p) rfl rfl hca infoN rfl (ndC_one _ _ _ _) ?_; intro wb hcb fb; have FB := Hid.mk (show Fr [] w wb from (f5.trans fa).then fb (fun j hj hm => (by simp at hm; have := f5.size; omega))); have n0 : wb.cell? ⟨ga, 0, none⟩ = some (.int .u8 (K : Int)) := hcb.cell 0; have n1 : wb.cell? ⟨ga, 1, none⟩ = some (.string NM) := hcb.cell 1; clear hca fa fb hcb c0 c1 c2 c3)
          | go_in)
        go_ret
        exact ⟨by rw [HT.out]; rfl, FB.out⟩
      by_cases h2 : ts = 2
      · subst h2
        cases hmn : ((K : Int) == 2) with
        | true =>
          have HT := Hid.mk (show takesB K NM ax 2 nm = (NM.toList == nm.toList) from by unfold takesB; rw [if_neg (show ¬ (2 : Int) = 1 by decide), if_pos rfl, if_neg h9, hmn, Bool.true_and])
          clear h9
          go_enter Tryz.func18, Tryz.ntmps18
          go_wp2_with (first
            | (go_at_call 25; refine cH.out.mono ?_; rintro e w5 ⟨rfl, f5⟩; obtain ⟨c0, c1, c2, c3⟩ := HKK.out _ f5)
            | (refine wp_alloc 41 rfl rfl _ zeroN _ rfl ?_; intro wa ga hga hca fa)
            | (refine wp_storeC 41 rfl _ _ rfl ga _ (ndC K NM VL p) rfl rfl hca infoN rfl (ndC_one _ _ _ _) ?_; intro wb hcb fb; have FB := Hid.mk (show Fr [] w wb from (f5.trans fa).then fb (fun j hj hm => (by simp at hm; have := f5.size; omega))); have n0 : wb.cell? ⟨ga, 0, none⟩ = some (.int .u8 (K : Int)) := hcb.cell 0; have n1 : wb.cell? ⟨ga, 1, none⟩ = some (.string NM) := hcb.cell 1; clear hca fa fb hcb c0 c1 c2 c3)
            | go_in)
          go_ret
          exact ⟨by rw [HT.out]; rfl, FB.out⟩
        | false =>
          have HT := Hid.mk (show takesB K NM ax 2 nm = false from by unfold takesB; rw [if_neg (show ¬ (2 : Int) = 1 by decide), if_pos rfl, if_neg h9, hmn, Bool.false_and])
          clear h9
          go_enter Tryz.func18, Tryz.ntmps18
          go_wp2_with (first
            | (go_at_call 25; refine cH.out.mono ?_; rintro e w5 ⟨rfl, f5⟩; obtain ⟨c0, c1, c2, c3⟩ := HKK.out _ f5)
            | (refine wp_alloc 41 rfl rfl _ zeroN _ rfl ?_; intro wa ga hga hca fa)
            | (refine wp_storeC 41 rfl _ _ rfl ga _ (ndC K NM VL p) rfl rfl hca infoN rfl (ndC_one _ _ _ _) ?_; intro wb hcb fb; have FB := Hid.mk (show Fr [] w wb from (f5.trans fa).then fb (fun j hj hm => (by simp at hm; have := f5.size; omega))); have n0 : wb.cell? ⟨ga, 0, none⟩ = some (.int .u8 (K : Int)) := hcb.cell 0; have n1 : wb.cell? ⟨ga, 1, none⟩ = some (.string NM) := hcb.cell 1; clear hca fa fb hcb c0 c1 c2 c3)
            | go_in)
          go_ret
          exact ⟨by rw [HT.out]; rfl, FB.out⟩
      by_cases h3 : ts = 3
      · subst h3
        have HT := Hid.mk (show takesB K NM ax 3 nm = ((K : Int) == 2) from by unfold takesB; rw [if_neg (show ¬ (3 : Int) = 1 by decide), if_neg (show ¬ (3 : Int) = 2 by decide), if_pos rfl, if_neg h9])
        clear h9
        go_enter Tryz.func18, Tryz.ntmps18
        go_wp2_with (first
          | (go_at_call 25; refine cH.out.mono ?_; rintro e w5 ⟨rfl, f5⟩; obtain ⟨c0, c1, c2, c3⟩ := HKK.out _ f5)
          | (refine wp_alloc 41 rfl rfl _ zeroN _ rfl ?_; intro wa ga hga hca fa)
          | (refine wp_storeC 41 rfl _ _ rfl ga _ (ndC K NM VL p) rfl rfl hca infoN rfl (ndC_one _ _ _ _) ?_; intro wb hcb fb; have FB := Hid.mk (show Fr [] w wb from (f5.trans fa).then fb (fun j hj hm => (by simp at hm; have := f5.size; omega))); have n0 : wb.cell? ⟨ga, 0, none⟩ = some (.int .u8 (K : Int)) := hcb.cell 0; have n1 : wb.cell? ⟨ga, 1, none⟩ = some (.string NM) := hcb.cell 1; clear hca fa fb hcb c0 c1 c2 c3)
          | go_in)
        go_ret
        exact ⟨by rw [HT.out]; rfl, FB.out⟩
      by_cases h4 : ts = 4
      · subst h4
        have HT := Hid.mk (show takesB K NM ax 4 nm = ((K : Int) == 4) from by unfold takesB; rw [if_neg (show ¬ (4 : Int) = 1 by decide), if_neg (show ¬ (4 : Int) = 2 by decide), if_neg (show ¬ (4 : Int) = 3 by decide), if_pos rfl])
        clear h9
        go_enter Tryz.func18, Tryz.ntmps18
        go_wp2_with (first
          | (go_at_call 25; refine cH.out.mono ?_; rintro e w5 ⟨rfl, f5⟩; obtain ⟨c0, c1, c2, c3⟩ := HKK.out _ f5)
          | (refine wp_alloc 41 rfl rfl _ zeroN _ rfl ?_; intro wa ga hga hca fa)
          | (refine wp_storeC 41 rfl _ _ rfl ga _ (ndC K NM VL p) rfl rfl hca infoN rfl (ndC_one _ _ _ _) ?_; intro wb hcb fb; have FB := Hid.mk (show Fr [] w wb from (f5.trans fa).then fb (fun j hj hm => (by simp at hm; have := f5.size; omega))); have n0 : wb.cell? ⟨ga, 0, none⟩ = some (.int .u8 (K : Int)) := hcb.cell 0; have n1 : wb.cell? ⟨ga, 1, none⟩ = some (.string NM) := hcb.cell 1; clear hca fa fb hcb c0 c1 c2 c3)
          | go_in)
        go_ret
        exact ⟨by rw [HT.out]; rfl, FB.out⟩
      by_cases h5 : ts = 5
      · subst h5
        have HT := Hid.mk (show takesB K NM ax 5 nm = ((K : Int) == 5) from by unfold takesB; rw [if_neg (show ¬ (5 : Int) = 1 by decide), if_neg (show ¬ (5 : Int) = 2 by decide), if_neg (show ¬ (5 : Int) = 3 by decide), if_neg (show ¬ (5 : Int) = 4 by decide), if_pos rfl])
        clear h9
        go_enter Tryz.func18, Tryz.ntmps18
        go_wp2_with (first
          | (go_at_call 25; refine cH.out.mono ?_; rintro e w5 ⟨rfl, f5⟩; obtain ⟨c0, c1, c2, c3⟩ := HKK.out _ f5)
          | (refine wp_alloc 41 rfl rfl _ zeroN _ rfl ?_; intro wa ga hga hca fa)
          | (refine wp_storeC 41 rfl _ _ rfl ga _ (ndC K NM VL p) rfl rfl hca infoN rfl (ndC_one _ _ _ _) ?_; intro wb hcb fb; have FB := Hid.mk (show Fr [] w wb from (f5.trans fa).then fb (fun j hj hm => (by simp at hm; have := f5.size; omega))); have n0 : wb.cell? ⟨ga, 0, none⟩ = some (.int .u8 (K : Int)) := hcb.cell 0; have n1 : wb.cell? ⟨ga, 1, none⟩ = some (.string NM) := hcb.cell 1; clear hca fa fb hcb c0 c1 c2 c3)
          | go_in)
        go_ret
        exact ⟨by rw [HT.out]; rfl, FB.out⟩
      by_cases h6 : ts = 6
      · subst h6
        cases hmn : ((K : Int) == 6) with
        | true =>
          cases hem : nm.toList.isEmpty with
          | true =>
            have HT := Hid.mk (show takesB K NM ax 6 nm = true from by unfold takesB; rw [if_neg (show ¬ (6 : Int) = 1 by decide), if_neg (show ¬ (6 : Int) = 2 by decide), if_neg (show ¬ (6 : Int) = 3 by decide), if_neg (show ¬ (6 : Int) = 4 by decide), if_neg (show ¬ (6 : Int) = 5 by decide), if_pos rfl, hmn, hem, Bool.true_and, Bool.true_or])
            clear h9
            go_enter Tryz.func18, Tryz.ntmps18
            go_wp2_with (first
              | (go_at_call 25; refine cH.out.mono ?_; rintro e w5 ⟨rfl, f5⟩; obtain ⟨c0, c1, c2, c3⟩ := HKK.out _ f5)
              | (refine wp_alloc 41 rfl rfl _ zeroN _ rfl ?_; intro wa ga hga hca fa)
              | (refine wp_storeC 41 rfl _ _ rfl ga _ (ndC K NM VL p) rfl rfl hca infoN rfl (ndC_one _ _ _ _) ?_; intro wb hcb fb; have FB := Hid.mk (show Fr [] w wb from (f5.trans fa).then fb (fun j hj hm => (by simp at hm; have := f5.size; omega))); have n0 : wb.cell? ⟨ga, 0, none⟩ = some (.int .u8 (K : Int)) := hcb.cell 0; have n1 : wb.cell? ⟨ga, 1, none⟩ = some (.string NM) := hcb.cell 1; clear hca fa fb hcb c0 c1 c2 c3)
              | go_in)
            go_ret
            exact ⟨by rw [HT.out]; rfl, FB.out⟩
          | false =>
            have HT := Hid.mk (show takesB K NM ax 6 nm = (NM.toList == nm.toList) from by unfold takesB; rw [if_neg (show ¬ (6 : Int) = 1 by decide), if_neg (show ¬ (6 : Int) = 2 by decide), if_neg (show ¬ (6 : Int) = 3 by decide), if_neg (show ¬ (6 : Int) = 4 by decide), if_neg (show ¬ (6 : Int) = 5 by decide), if_pos rfl, hmn, hem, Bool.true_and, Bool.false_or])
            clear h9
            go_enter Tryz.func18, Tryz.ntmps18
            go_wp2_with (first
              | (go_at_call 25; refine cH.out.mono ?_; rintro e w5 ⟨rfl, f5⟩; obtain ⟨c0, c1, c2, c3⟩ := HKK.out _ f5)
              | (refine wp_alloc 41 rfl rfl _ zeroN _ rfl ?_; intro wa ga hga hca fa)
              | (refine wp_storeC 41 rfl _ _ rfl ga _ (ndC K NM VL p) rfl rfl hca infoN rfl (ndC_one _ _ _ _) ?_; intro wb hcb fb; have FB := Hid.mk (show Fr [] w wb from (f5.trans fa).then fb (fun j hj hm => (by simp at hm; have := f5.size; omega))); have n0 : wb.cell? ⟨ga, 0, none⟩ = some (.int .u8 (K : Int)) := hcb.cell 0; have n1 : wb.cell? ⟨ga, 1, none⟩ = some (.string NM) := hcb.cell 1; clear hca fa fb hcb c0 c1 c2 c3)
              | go_in)
            go_ret
            exact ⟨by rw [HT.out]; rfl, FB.out⟩
        | false =>
          have HT := Hid.mk (show takesB K NM ax 6 nm = false from by unfold takesB; rw [if_neg (show ¬ (6 : Int) = 1 by decide), if_neg (show ¬ (6 : Int) = 2 by decide), if_neg (show ¬ (6 : Int) = 3 by decide), if_neg (show ¬ (6 : Int) = 4 by decide), if_neg (show ¬ (6 : Int) = 5 by decide), if_pos rfl, hmn, Bool.false_and])
          clear h9
          go_enter Tryz.func18, Tryz.ntmps18
          go_wp2_with (first
            | (go_at_call 25; refine cH.out.mono ?_; rintro e w5 ⟨rfl, f5⟩; obtain ⟨c0, c1, c2, c3⟩ := HKK.out _ f5)
            | (refine wp_alloc 41 rfl rfl _ zeroN _ rfl ?_; intro wa ga hga hca fa)
            | (refine wp_storeC 41 rfl _ _ rfl ga _ (ndC K NM VL p) rfl rfl hca infoN rfl (ndC_one _ _ _ _) ?_; intro wb hcb fb; have FB := Hid.mk (show Fr [] w wb from (f5.trans fa).then fb (fun j hj hm => (by simp at hm; have := f5.size; omega))); have n0 : wb.cell? ⟨ga, 0, none⟩ = some (.int .u8 (K : Int)) := hcb.cell 0; have n1 : wb.cell? ⟨ga, 1, none⟩ = some (.string NM) := hcb.cell 1; clear hca fa fb hcb c0 c1 c2 c3)
            | go_in)
          go_ret
          exact ⟨by rw [HT.out]; rfl, FB.out⟩
      have g1 : (ts == 1) = false := by rw [beq_eq_false_iff_ne]; exact h1
      have g2 : (ts == 2) = false := by rw [beq_eq_false_iff_ne]; exact h2
      have g3 : (ts == 3) = false := by rw [beq_eq_false_iff_ne]; exact h3
      have g4 : (ts == 4) = false := by rw [beq_eq_false_iff_ne]; exact h4
      have g5 : (ts == 5) = false := by rw [beq_eq_false_iff_ne]; exact h5
      have g6 : (ts == 6) = false := by rw [beq_eq_false_iff_ne]; exact h6
      have HT := Hid.mk (show takesB K NM ax ts nm = false from by unfold takesB; rw [if_neg h1, if_neg h2, if_neg h3, if_neg h4, if_neg h5, if_neg h6])
      clear h1 h2 h3 h4 h5 h6 h9
      go_enter Tryz.func18, Tryz.ntmps18
      go_wp2_with (first
        | (go_at_call 25; refine cH.out.mono ?_; rintro e w5 ⟨rfl, f5⟩; obtain ⟨c0, c1, c2, c3⟩ := HKK.out _ f5)
        | (refine wp_alloc 41 rfl rfl _ zeroN _ rfl ?_; intro wa ga hga hca fa)
        | (refine wp_storeC 41 rfl _ _ rfl ga _ (ndC K NM VL p) rfl rfl hca infoN rfl (ndC_one _ _ _ _) ?_; intro wb hcb fb; have FB := Hid.mk (show Fr [] w wb from (f5.trans fa).then fb (fun j hj hm => (by simp at hm; have := f5.size; omega))); have n0 : wb.cell? ⟨ga, 0, none⟩ = some (.int .u8 (K : Int)) := hcb.cell 0; have n1 : wb.cell? ⟨ga, 1, none⟩ = some (.string NM) := hcb.cell 1; clear hca fa fb hcb c0 c1 c2 c3)
        | go_in)
      go_ret
      exact ⟨by rw [HT.out]; rfl, FB.out⟩
set_option maxHeartbeats 16000000 in
set_option maxRecDepth 100000 in
theorem refTakes_any (w : World) (ad : Option Addr) (c n : Nat) (t : List Nd) (hn : t.length = n) (hN : NodesAt w ad t) (hl : n ≤ 300) (hZ : Short t) (k ax ts : Int) (nm : ByteArray) :
    Calls Tryz.prog 19 #[.slice ad n c, .int .i64 k, .int .u8 ax, .int .u8 ts, .string nm] w fun e w' => e = .returned (.bool (takesS t k ax ts nm)) ∧ Fr [] w w' := by
  unfold takesS
  have cH := Hid.mk (refPlace_any w ad c n t hn hN hl hZ k)
  cases hh : hasB t k with
  | false =>
    rw [hh] at cH
    rw [if_neg (by decide)]
    clear hN hh
    go_enter Tryz.func19, Tryz.ntmps19
    go_wp2_with (go_at_call 28; refine cH.out.mono ?_; rintro e w5 ⟨rfl, f5⟩)
    go_ret
    exact ⟨rfl, f5⟩
  | true =>
    rw [hh] at cH
    obtain ⟨m, rfl, hm, hl5, _⟩ := has_iff hh
    subst hn
    obtain ⟨b, off, rfl, hI⟩ := hN.in (by omega)
    rw [if_pos rfl, Int.toNat_natCast]
    have hm' : (m : Int) < (t.length : Int) := by omega
    have hm0 : (0 : Int) ≤ (m : Int) := by omega
    have HKK := Hid.mk (fun w' (f : Fr [] w w') => hI.kept f (by simp) m hm)
    generalize vlu t m = VL at HKK
    generalize nam t m = NM at HKK
    generalize par t m = p at HKK
    generalize knd t m = K at HKK
    clear hN hh hI
    by_cases h9 : ax = 9
    · subst h9
      by_cases h1 : ts = 1
      · subst h1
        have HT := Hid.mk (show takesB K NM 9 1 nm = true from by unfold takesB; rw [if_pos rfl])
        go_enter Tryz.func19, Tryz.ntmps19
        go_wp2_with (first
          | (go_at_call 28; refine cH.out.mono ?_; rintro e w5 ⟨rfl, f5⟩; obtain ⟨c0, c1, c2, c3⟩ := HKK.out _ f5)
          | (refine wp_alloc 41 rfl rfl _ zeroN _ rfl ?_; intro wa ga hga hca fa)
          | (refine wp_storeC 41 rfl _ _ rfl ga _ (ndC K NM VL p) rfl rfl hca infoN rfl (ndC_one _ _ _ _) ?_; intro wb hcb fb; have FB := Hid.mk (show Fr [] w wb from (f5.trans fa).then fb (fun j hj hm => (by simp at hm; have := f5.size; omega))); have n0 : wb.cell? ⟨ga, 0, none⟩ = some (.int .u8 (K : Int)) := hcb.cell 0; have n1 : wb.cell? ⟨ga, 1, none⟩ = some (.string NM) := hcb.cell 1; clear hca fa fb hcb c0 c1 c2 c3)
          | go_in)
        go_ret
        exact ⟨by rw [HT.out]; rfl, FB.out⟩
      by_cases h2 : ts = 2
      · subst h2
        cases hmn : ((K : Int) == 3) with
        | true =>
          have HT := Hid.mk (show takesB K NM 9 2 nm = (NM.toList == nm.toList) from by unfold takesB; rw [if_neg (show ¬ (2 : Int) = 1 by decide), if_pos rfl, if_pos rfl, hmn, Bool.true_and])
          go_enter Tryz.func19, Tryz.ntmps19
          go_wp2_with (first
            | (go_at_call 28; refine cH.out.mono ?_; rintro e w5 ⟨rfl, f5⟩; obtain ⟨c0, c1, c2, c3⟩ := HKK.out _ f5)
            | (refine wp_alloc 41 rfl rfl _ zeroN _ rfl ?_; intro wa ga hga hca fa)
            | (refine wp_storeC 41 rfl _ _ rfl ga _ (ndC K NM VL p) rfl rfl hca infoN rfl (ndC_one _ _ _ _) ?_; intro wb hcb fb; have FB := Hid.mk (show Fr [] w wb from (f5.trans fa).then fb (fun j hj hm => (by simp at hm; have := f5.size; omega))); have n0 : wb.cell? ⟨ga, 0, none⟩ = some (.int .u8 (K : Int)) := hcb.cell 0; have n1 : wb.cell? ⟨ga, 1, none⟩ = some (.string NM) := hcb.cell 1; clear hca fa fb hcb c0 c1 c2 c3)
            | go_in)
          go_ret
          exact ⟨by rw [HT.out]; rfl, FB.out⟩
        | false =>
          have HT := Hid.mk (show takesB K NM 9 2 nm = false from by unfold takesB; rw [if_neg (show ¬ (2 : Int) = 1 by decide), if_pos rfl, if_pos rfl, hmn, Bool.false_and])
          go_enter Tryz.func19, Tryz.ntmps19
          go_wp2_with (first
            | (go_at_call 28; refine cH.out.mono ?_; rintro e w5 ⟨rfl, f5⟩; obtain ⟨c0, c1, c2, c3⟩ := HKK.out _ f5)
            | (refine wp_alloc 41 rfl rfl _ zeroN _ rfl ?_; intro wa ga hga hca fa)
            | (refine wp_storeC 41 rfl _ _ rfl ga _ (ndC K NM VL p) rfl rfl hca infoN rfl (ndC_one _ _ _ _) ?_; intro wb hcb fb; have FB := Hid.mk (show Fr [] w wb from (f5.trans fa).then fb (fun j hj hm => (by simp at hm; have := f5.size; omega))); have n0 : wb.cell? ⟨ga, 0, none⟩ = some (.int .u8 (K : Int)) := hcb.cell 0; have n1 : wb.cell? ⟨ga, 1, none⟩ = some (.string NM) := hcb.cell 1; clear hca fa fb hcb c0 c1 c2 c3)
            | go_in)
          go_ret
          exact ⟨by rw [HT.out]; rfl, FB.out⟩
      by_cases h3 : ts = 3
      · subst h3
        have HT := Hid.mk (show takesB K NM 9 3 nm = ((K : Int) == 3) from by unfold takesB; rw [if_neg (show ¬ (3 : Int) = 1 by decide), if_neg (show ¬ (3 : Int) = 2 by decide), if_pos rfl, if_pos rfl])
        go_enter Tryz.func19, Tryz.ntmps19
        go_wp2_with (first
          | (go_at_call 28; refine cH.out.mono ?_; rintro e w5 ⟨rfl, f5⟩; obtain ⟨c0, c1, c2, c3⟩ := HKK.out _ f5)
          | (refine wp_alloc 41 rfl rfl _ zeroN _ rfl ?_; intro wa ga hga hca fa)
          | (refine wp_storeC 41 rfl _ _ rfl ga _ (ndC K NM VL p) rfl rfl hca infoN rfl (ndC_one _ _ _ _) ?_; intro wb hcb fb; have FB := Hid.mk (show Fr [] w wb from (f5.trans fa).then fb (fun j hj hm => (by simp at hm; have := f5.size; omega))); have n0 : wb.cell? ⟨ga, 0, none⟩ = some (.int .u8 (K : Int)) := hcb.cell 0; have n1 : wb.cell? ⟨ga, 1, none⟩ = some (.string NM) := hcb.cell 1; clear hca fa fb hcb c0 c1 c2 c3)
          | go_in)
        go_ret
        exact ⟨by rw [HT.out]; rfl, FB.out⟩
      by_cases h4 : ts = 4
      · subst h4
        have HT := Hid.mk (show takesB K NM 9 4 nm = ((K : Int) == 4) from by unfold takesB; rw [if_neg (show ¬ (4 : Int) = 1 by decide), if_neg (show ¬ (4 : Int) = 2 by decide), if_neg (show ¬ (4 : Int) = 3 by decide), if_pos rfl])
        go_enter Tryz.func19, Tryz.ntmps19
        go_wp2_with (first
          | (go_at_call 28; refine cH.out.mono ?_; rintro e w5 ⟨rfl, f5⟩; obtain ⟨c0, c1, c2, c3⟩ := HKK.out _ f5)
          | (refine wp_alloc 41 rfl rfl _ zeroN _ rfl ?_; intro wa ga hga hca fa)
          | (refine wp_storeC 41 rfl _ _ rfl ga _ (ndC K NM VL p) rfl rfl hca infoN rfl (ndC_one _ _ _ _) ?_; intro wb hcb fb; have FB := Hid.mk (show Fr [] w wb from (f5.trans fa).then fb (fun j hj hm => (by simp at hm; have := f5.size; omega))); have n0 : wb.cell? ⟨ga, 0, none⟩ = some (.int .u8 (K : Int)) := hcb.cell 0; have n1 : wb.cell? ⟨ga, 1, none⟩ = some (.string NM) := hcb.cell 1; clear hca fa fb hcb c0 c1 c2 c3)
          | go_in)
        go_ret
        exact ⟨by rw [HT.out]; rfl, FB.out⟩
      by_cases h5 : ts = 5
      · subst h5
        have HT := Hid.mk (show takesB K NM 9 5 nm = ((K : Int) == 5) from by unfold takesB; rw [if_neg (show ¬ (5 : Int) = 1 by decide), if_neg (show ¬ (5 : Int) = 2 by decide), if_neg (show ¬ (5 : Int) = 3 by decide), if_neg (show ¬ (5 : Int) = 4 by decide), if_pos rfl])
        go_enter Tryz.func19, Tryz.ntmps19
        go_wp2_with (first
          | (go_at_call 28; refine cH.out.mono ?_; rintro e w5 ⟨rfl, f5⟩; obtain ⟨c0, c1, c2, c3⟩ := HKK.out _ f5)
          | (refine wp_alloc 41 rfl rfl _ zeroN _ rfl ?_; intro wa ga hga hca fa)
          | (refine wp_storeC 41 rfl _ _ rfl ga _ (ndC K NM VL p) rfl rfl hca infoN rfl (ndC_one _ _ _ _) ?_; intro wb hcb fb; have FB := Hid.mk (show Fr [] w wb from (f5.trans fa).then fb (fun j hj hm => (by simp at hm; have := f5.size; omega))); have n0 : wb.cell? ⟨ga, 0, none⟩ = some (.int .u8 (K : Int)) := hcb.cell 0; have n1 : wb.cell? ⟨ga, 1, none⟩ = some (.string NM) := hcb.cell 1; clear hca fa fb hcb c0 c1 c2 c3)
          | go_in)
        go_ret
        exact ⟨by rw [HT.out]; rfl, FB.out⟩
      by_cases h6 : ts = 6
      · subst h6
        cases hmn : ((K : Int) == 6) with
        | true =>
          cases hem : nm.toList.isEmpty with
          | true =>
            have HT := Hid.mk (show takesB K NM 9 6 nm = true from by unfold takesB; rw [if_neg (show ¬ (6 : Int) = 1 by decide), if_neg (show ¬ (6 : Int) = 2 by decide), if_neg (show ¬ (6 : Int) = 3 by decide), if_neg (show ¬ (6 : Int) = 4 by decide), if_neg (show ¬ (6 : Int) = 5 by decide), if_pos rfl, hmn, hem, Bool.true_and, Bool.true_or])
            go_enter Tryz.func19, Tryz.ntmps19
            go_wp2_with (first
              | (go_at_call 28; refine cH.out.mono ?_; rintro e w5 ⟨rfl, f5⟩; obtain ⟨c0, c1, c2, c3⟩ := HKK.out _ f5)
              | (refine wp_alloc 41 rfl rfl _ zeroN _ rfl ?_; intro wa ga hga hca fa)
              | (refine wp_storeC 41 rfl _ _ rfl ga _ (ndC K NM VL p) rfl rfl hca infoN rfl (ndC_one _ _ _ _) ?_; intro wb hcb fb; have FB := Hid.mk (show Fr [] w wb from (f5.trans fa).then fb (fun j hj hm => (by simp at hm; have := f5.size; omega))); have n0 : wb.cell? ⟨ga, 0, none⟩ = some (.int .u8 (K : Int)) := hcb.cell 0; have n1 : wb.cell? ⟨ga, 1, none⟩ = some (.string NM) := hcb.cell 1; clear hca fa fb hcb c0 c1 c2 c3)
              | go_in)
            go_ret
            exact ⟨by rw [HT.out]; rfl, FB.out⟩
          | false =>
            have HT := Hid.mk (show takesB K NM 9 6 nm = (NM.toList == nm.toList) from by unfold takesB; rw [if_neg (show ¬ (6 : Int) = 1 by decide), if_neg (show ¬ (6 : Int) = 2 by decide), if_neg (show ¬ (6 : Int) = 3 by decide), if_neg (show ¬ (6 : Int) = 4 by decide), if_neg (show ¬ (6 : Int) = 5 by decide), if_pos rfl, hmn, hem, Bool.true_and, Bool.false_or])
            go_enter Tryz.func19, Tryz.ntmps19
            go_wp2_with (first
              | (go_at_call 28; refine cH.out.mono ?_; rintro e w5 ⟨rfl, f5⟩; obtain ⟨c0, c1, c2, c3⟩ := HKK.out _ f5)
              | (refine wp_alloc 41 rfl rfl _ zeroN _ rfl ?_; intro wa ga hga hca fa)
              | (refine wp_storeC 41 rfl _ _ rfl ga _ (ndC K NM VL p) rfl rfl hca infoN rfl (ndC_one _ _ _ _) ?_; intro wb hcb fb; have FB := Hid.mk (show Fr [] w wb from (f5.trans fa).then fb (fun j hj hm => (by simp at hm; have := f5.size; omega))); have n0 : wb.cell? ⟨ga, 0, none⟩ = some (.int .u8 (K : Int)) := hcb.cell 0; have n1 : wb.cell? ⟨ga, 1, none⟩ = some (.string NM) := hcb.cell 1; clear hca fa fb hcb c0 c1 c2 c3)
              | go_in)
            go_ret
            exact ⟨by rw [HT.out]; rfl, FB.out⟩
        | false =>
          have HT := Hid.mk (show takesB K NM 9 6 nm = false from by unfold takesB; rw [if_neg (show ¬ (6 : Int) = 1 by decide), if_neg (show ¬ (6 : Int) = 2 by decide), if_neg (show ¬ (6 : Int) = 3 by decide), if_neg (show ¬ (6 : Int) = 4 by decide), if_neg (show ¬ (6 : Int) = 5 by decide), if_pos rfl, hmn, Bool.false_and])
          go_enter Tryz.func19, Tryz.ntmps19
          go_wp2_with (first
            | (go_at_call 28; refine cH.out.mono ?_; rintro e w5 ⟨rfl, f5⟩; obtain ⟨c0, c1, c2, c3⟩ := HKK.out _ f5)
            | (refine wp_alloc 41 rfl rfl _ zeroN _ rfl ?_; intro wa ga hga hca fa)
            | (refine wp_storeC 41 rfl _ _ rfl ga _ (ndC K NM VL p) rfl rfl hca infoN rfl (ndC_one _ _ _ _) ?_; intro wb hcb fb; have FB := Hid.mk (show Fr [] w wb from (f5.trans fa).then fb (fun j hj hm => (by simp at hm; have := f5.size; omega))); have n0 : wb.cell? ⟨ga, 0, none⟩ = some (.int .u8 (K : Int)) := hcb.cell 0; have n1 : wb.cell? ⟨ga, 1, none⟩ = some (.string NM) := hcb.cell 1; clear hca fa fb hcb c0 c1 c2 c3)
            | go_in)
          go_ret
          exact ⟨by rw [HT.out]; rfl, FB.out⟩
      have g1 : (ts == 1) = false := by rw [beq_eq_false_iff_ne]; exact h1
      have g2 : (ts == 2) = false := by rw [beq_eq_false_iff_ne]; exact h2
      have g3 : (ts == 3) = false := by rw [beq_eq_false_iff_ne]; exact h3
      have g4 : (ts == 4) = false := by rw [beq_eq_false_iff_ne]; exact h4
      have g5 : (ts == 5) = false := by rw [beq_eq_false_iff_ne]; exact h5
      have g6 : (ts == 6) = false := by rw [beq_eq_false_iff_ne]; exact h6
      have HT := Hid.mk (show takesB K NM 9 ts nm = false from by unfold takesB; rw [if_neg h1, if_neg h2, if_neg h3, if_neg h4, if_neg h5, if_neg h6])
      clear h1 h2 h3 h4 h5 h6
      go_enter Tryz.func19, Tryz.ntmps19
      go_wp2_with (first
        | (go_at_call 28; refine cH.out.mono ?_; rintro e w5 ⟨rfl, f5⟩; obtain ⟨c0, c1, c2, c3⟩ := HKK.out _ f5)
        | (refine wp_alloc 41 rfl rfl _ zeroN _ rfl ?_; intro wa ga hga hca fa)
        | (refine wp_storeC 41 rfl _ _ rfl ga _ (ndC K NM VL p) rfl rfl hca infoN rfl (ndC_one _ _ _ _) ?_; intro wb hcb fb; have FB := Hid.mk (show Fr [] w wb from (f5.trans fa).then fb (fun j hj hm => (by simp at hm; have := f5.size; omega))); have n0 : wb.cell? ⟨ga, 0, none⟩ = some (.int .u8 (K : Int)) := hcb.cell 0; have n1 : wb.cell? ⟨ga, 1, none⟩ = some (.string NM) := hcb.cell 1; clear hca fa fb hcb c0 c1 c2 c3)
        | go_in)
      go_ret
      exact ⟨by rw [HT.out]; rfl, FB.out⟩
    · have h9b : (ax == 9) = false := by rw [beq_eq_false_iff_ne]; exact h9
      by_cases h1 : ts = 1
      · subst h1
        have HT := Hid.mk (show takesB K NM ax 1 nm = true from by unfold takesB; rw [if_pos rfl])
        clear h9
        go_enter Tryz.func19, Tryz.ntmps19
        go_wp2_with (first
          | (go_at_call 28; refine cH.out.mono ?_; rintro e w5 ⟨rfl, f5⟩; obtain ⟨c0, c1, c2, c3⟩ := HKK.out _ f5)
          | (refine wp_alloc 41 rfl rfl _ zeroN _ rfl ?_; intro wa ga hga hca fa)
          | (refine wp_storeC 41 rfl _ _ rfl ga _ (ndC K NM VL p) rfl rfl hca infoN rfl (ndC_one _ _ _ _) ?_; intro wb hcb fb; have FB := Hid.mk (show Fr [] w wb from (f5.trans fa).then fb (fun j hj hm => (by simp at hm; have := f5.size; omega))); have n0 : wb.cell? ⟨ga, 0, none⟩ = some (.int .u8 (K : Int)) := hcb.cell 0; have n1 : wb.cell? ⟨ga, 1, none⟩ = some (.string NM) := hcb.cell 1; clear hca fa fb hcb c0 c1 c2 c3)
          | go_in)
        go_ret
        exact ⟨by rw [HT.out]; rfl, FB.out⟩
      by_cases h2 : ts = 2
      · subst h2
        cases hmn : ((K : Int) == 2) with
        | true =>
          have HT := Hid.mk (show takesB K NM ax 2 nm = (NM.toList == nm.toList) from by unfold takesB; rw [if_neg (show ¬ (2 : Int) = 1 by decide), if_pos rfl, if_neg h9, hmn, Bool.true_and])
          clear h9
          go_enter Tryz.func19, Tryz.ntmps19
          go_wp2_with (first
            | (go_at_call 28; refine cH.out.mono ?_; rintro e w5 ⟨rfl, f5⟩; obtain ⟨c0, c1, c2, c3⟩ := HKK.out _ f5)
            | (refine wp_alloc 41 rfl rfl _ zeroN _ rfl ?_; intro wa ga hga hca fa)
            | (refine wp_storeC 41 rfl _ _ rfl ga _ (ndC K NM VL p) rfl rfl hca infoN rfl (ndC_one _ _ _ _) ?_; intro wb hcb fb; have FB := Hid.mk (show Fr [] w wb from (f5.trans fa).then fb (fun j hj hm => (by simp at hm; have := f5.size; omega))); have n0 : wb.cell? ⟨ga, 0, none⟩ = some (.int .u8 (K : Int)) := hcb.cell 0; have n1 : wb.cell? ⟨ga, 1, none⟩ = some (.string NM) := hcb.cell 1; clear hca fa fb hcb c0 c1 c2 c3)
            | go_in)
          go_ret
          exact ⟨by rw [HT.out]; rfl, FB.out⟩
        | false =>
          have HT := Hid.mk (show takesB K NM ax 2 nm = false from by unfold takesB; rw [if_neg (show ¬ (2 : Int) = 1 by decide), if_pos rfl, if_neg h9, hmn, Bool.false_and])
          clear h9
          go_enter Tryz.func19, Tryz.ntmps19
          go_wp2_with (first
            | (go_at_call 28; refine cH.out.mono ?_; rintro e w5 ⟨rfl, f5⟩; obtain ⟨c0, c1, c2, c3⟩ := HKK.out _ f5)
            | (refine wp_alloc 41 rfl rfl _ zeroN _ rfl ?_; intro wa ga hga hca fa)
            | (refine wp_storeC 41 rfl _ _ rfl ga _ (ndC K NM VL p) rfl rfl hca infoN rfl (ndC_one _ _ _ _) ?_; intro wb hcb fb; have FB := Hid.mk (show Fr [] w wb from (f5.trans fa).then fb (fun j hj hm => (by simp at hm; have := f5.size; omega))); have n0 : wb.cell? ⟨ga, 0, none⟩ = some (.int .u8 (K : Int)) := hcb.cell 0; have n1 : wb.cell? ⟨ga, 1, none⟩ = some (.string NM) := hcb.cell 1; clear hca fa fb hcb c0 c1 c2 c3)
            | go_in)
          go_ret
          exact ⟨by rw [HT.out]; rfl, FB.out⟩
      by_cases h3 : ts = 3
      · subst h3
        have HT := Hid.mk (show takesB K NM ax 3 nm = ((K : Int) == 2) from by unfold takesB; rw [if_neg (show ¬ (3 : Int) = 1 by decide), if_neg (show ¬ (3 : Int) = 2 by decide), if_pos rfl, if_neg h9])
        clear h9
        go_enter Tryz.func19, Tryz.ntmps19
        go_wp2_with (first
          | (go_at_call 28; refine cH.out.mono ?_; rintro e w5 ⟨rfl, f5⟩; obtain ⟨c0, c1, c2, c3⟩ := HKK.out _ f5)
          | (refine wp_alloc 41 rfl rfl _ zeroN _ rfl ?_; intro wa ga hga hca fa)
          | (refine wp_storeC 41 rfl _ _ rfl ga _ (ndC K NM VL p) rfl rfl hca infoN rfl (ndC_one _ _ _ _) ?_; intro wb hcb fb; have FB := Hid.mk (show Fr [] w wb from (f5.trans fa).then fb (fun j hj hm => (by simp at hm; have := f5.size; omega))); have n0 : wb.cell? ⟨ga, 0, none⟩ = some (.int .u8 (K : Int)) := hcb.cell 0; have n1 : wb.cell? ⟨ga, 1, none⟩ = some (.string NM) := hcb.cell 1; clear hca fa fb hcb c0 c1 c2 c3)
          | go_in)
        go_ret
        exact ⟨by rw [HT.out]; rfl, FB.out⟩
      by_cases h4 : ts = 4
      · subst h4
        have HT := Hid.mk (show takesB K NM ax 4 nm = ((K : Int) == 4) from by unfold takesB; rw [if_neg (show ¬ (4 : Int) = 1 by decide), if_neg (show ¬ (4 : Int) = 2 by decide), if_neg (show ¬ (4 : Int) = 3 by decide), if_pos rfl])
        clear h9
        go_enter Tryz.func19, Tryz.ntmps19
        go_wp2_with (first
          | (go_at_call 28; refine cH.out.mono ?_; rintro e w5 ⟨rfl, f5⟩; obtain ⟨c0, c1, c2, c3⟩ := HKK.out _ f5)
          | (refine wp_alloc 41 rfl rfl _ zeroN _ rfl ?_; intro wa ga hga hca fa)
          | (refine wp_storeC 41 rfl _ _ rfl ga _ (ndC K NM VL p) rfl rfl hca infoN rfl (ndC_one _ _ _ _) ?_; intro wb hcb fb; have FB := Hid.mk (show Fr [] w wb from (f5.trans fa).then fb (fun j hj hm => (by simp at hm; have := f5.size; omega))); have n0 : wb.cell? ⟨ga, 0, none⟩ = some (.int .u8 (K : Int)) := hcb.cell 0; have n1 : wb.cell? ⟨ga, 1, none⟩ = some (.string NM) := hcb.cell 1; clear hca fa fb hcb c0 c1 c2 c3)
          | go_in)
        go_ret
        exact ⟨by rw [HT.out]; rfl, FB.out⟩
      by_cases h5 : ts = 5
      · subst h5
        have HT := Hid.mk (show takesB K NM ax 5 nm = ((K : Int) == 5) from by unfold takesB; rw [if_neg (show ¬ (5 : Int) = 1 by decide), if_neg (show ¬ (5 : Int) = 2 by decide), if_neg (show ¬ (5 : Int) = 3 by decide), if_neg (show ¬ (5 : Int) = 4 by decide), if_pos rfl])
        clear h9
        go_enter Tryz.func19, Tryz.ntmps19
        go_wp2_with (first
          | (go_at_call 28; refine cH.out.mono ?_; rintro e w5 ⟨rfl, f5⟩; obtain ⟨c0, c1, c2, c3⟩ := HKK.out _ f5)
          | (refine wp_alloc 41 rfl rfl _ zeroN _ rfl ?_; intro wa ga hga hca fa)
          | (refine wp_storeC 41 rfl _ _ rfl ga _ (ndC K NM VL p) rfl rfl hca infoN rfl (ndC_one _ _ _ _) ?_; intro wb hcb fb; have FB := Hid.mk (show Fr [] w wb from (f5.trans fa).then fb (fun j hj hm => (by simp at hm; have := f5.size; omega))); have n0 : wb.cell? ⟨ga, 0, none⟩ = some (.int .u8 (K : Int)) := hcb.cell 0; have n1 : wb.cell? ⟨ga, 1, none⟩ = some (.string NM) := hcb.cell 1; clear hca fa fb hcb c0 c1 c2 c3)
          | go_in)
        go_ret
        exact ⟨by rw [HT.out]; rfl, FB.out⟩
      by_cases h6 : ts = 6
      · subst h6
        cases hmn : ((K : Int) == 6) with
        | true =>
          cases hem : nm.toList.isEmpty with
          | true =>
            have HT := Hid.mk (show takesB K NM ax 6 nm = true from by unfold takesB; rw [if_neg (show ¬ (6 : Int) = 1 by decide), if_neg (show ¬ (6 : Int) = 2 by decide), if_neg (show ¬ (6 : Int) = 3 by decide), if_neg (show ¬ (6 : Int) = 4 by decide), if_neg (show ¬ (6 : Int) = 5 by decide), if_pos rfl, hmn, hem, Bool.true_and, Bool.true_or])
            clear h9
            go_enter Tryz.func19, Tryz.ntmps19
            go_wp2_with (first
              | (go_at_call 28; refine cH.out.mono ?_; rintro e w5 ⟨rfl, f5⟩; obtain ⟨c0, c1, c2, c3⟩ := HKK.out _ f5)
              | (refine wp_alloc 41 rfl rfl _ zeroN _ rfl ?_; intro wa ga hga hca fa)
              | (refine wp_storeC 41 rfl _ _ rfl ga _ (ndC K NM VL p) rfl rfl hca infoN rfl (ndC_one _ _ _ _) ?_; intro wb hcb fb; have FB := Hid.mk (show Fr [] w wb from (f5.trans fa).then fb (fun j hj hm => (by simp at hm; have := f5.size; omega))); have n0 : wb.cell? ⟨ga, 0, none⟩ = some (.int .u8 (K : Int)) := hcb.cell 0; have n1 : wb.cell? ⟨ga, 1, none⟩ = some (.string NM) := hcb.cell 1; clear hca fa fb hcb c0 c1 c2 c3)
              | go_in)
            go_ret
            exact ⟨by rw [HT.out]; rfl, FB.out⟩
          | false =>
            have HT := Hid.mk (show takesB K NM ax 6 nm = (NM.toList == nm.toList) from by unfold takesB; rw [if_neg (show ¬ (6 : Int) = 1 by decide), if_neg (show ¬ (6 : Int) = 2 by decide), if_neg (show ¬ (6 : Int) = 3 by decide), if_neg (show ¬ (6 : Int) = 4 by decide), if_neg (show ¬ (6 : Int) = 5 by decide), if_pos rfl, hmn, hem, Bool.true_and, Bool.false_or])
            clear h9
            go_enter Tryz.func19, Tryz.ntmps19
            go_wp2_with (first
              | (go_at_call 28; refine cH.out.mono ?_; rintro e w5 ⟨rfl, f5⟩; obtain ⟨c0, c1, c2, c3⟩ := HKK.out _ f5)
              | (refine wp_alloc 41 rfl rfl _ zeroN _ rfl ?_; intro wa ga hga hca fa)
              | (refine wp_storeC 41 rfl _ _ rfl ga _ (ndC K NM VL p) rfl rfl hca infoN rfl (ndC_one _ _ _ _) ?_; intro wb hcb fb; have FB := Hid.mk (show Fr [] w wb from (f5.trans fa).then fb (fun j hj hm => (by simp at hm; have := f5.size; omega))); have n0 : wb.cell? ⟨ga, 0, none⟩ = some (.int .u8 (K : Int)) := hcb.cell 0; have n1 : wb.cell? ⟨ga, 1, none⟩ = some (.string NM) := hcb.cell 1; clear hca fa fb hcb c0 c1 c2 c3)
              | go_in)
            go_ret
            exact ⟨by rw [HT.out]; rfl, FB.out⟩
        | false =>
          have HT := Hid.mk (show takesB K NM ax 6 nm = false from by unfold takesB; rw [if_neg (show ¬ (6 : Int) = 1 by decide), if_neg (show ¬ (6 : Int) = 2 by decide), if_neg (show ¬ (6 : Int) = 3 by decide), if_neg (show ¬ (6 : Int) = 4 by decide), if_neg (show ¬ (6 : Int) = 5 by decide), if_pos rfl, hmn, Bool.false_and])
          clear h9
          go_enter Tryz.func19, Tryz.ntmps19
          go_wp2_with (first
            | (go_at_call 28; refine cH.out.mono ?_; rintro e w5 ⟨rfl, f5⟩; obtain ⟨c0, c1, c2, c3⟩ := HKK.out _ f5)
            | (refine wp_alloc 41 rfl rfl _ zeroN _ rfl ?_; intro wa ga hga hca fa)
            | (refine wp_storeC 41 rfl _ _ rfl ga _ (ndC K NM VL p) rfl rfl hca infoN rfl (ndC_one _ _ _ _) ?_; intro wb hcb fb; have FB := Hid.mk (show Fr [] w wb from (f5.trans fa).then fb (fun j hj hm => (by simp at hm; have := f5.size; omega))); have n0 : wb.cell? ⟨ga, 0, none⟩ = some (.int .u8 (K : Int)) := hcb.cell 0; have n1 : wb.cell? ⟨ga, 1, none⟩ = some (.string NM) := hcb.cell 1; clear hca fa fb hcb c0 c1 c2 c3)
            | go_in)
          go_ret
          exact ⟨by rw [HT.out]; rfl, FB.out⟩
      have g1 : (ts == 1) = false := by rw [beq_eq_false_iff_ne]; exact h1
      have g2 : (ts == 2) = false := by rw [beq_eq_false_iff_ne]; exact h2
      have g3 : (ts == 3) = false := by rw [beq_eq_false_iff_ne]; exact h3
      have g4 : (ts == 4) = false := by rw [beq_eq_false_iff_ne]; exact h4
      have g5 : (ts == 5) = false := by rw [beq_eq_false_iff_ne]; exact h5
      have g6 : (ts == 6) = false := by rw [beq_eq_false_iff_ne]; exact h6
      have HT := Hid.mk (show takesB K NM ax ts nm = false from by unfold takesB; rw [if_neg h1, if_neg h2, if_neg h3, if_neg h4, if_neg h5, if_neg h6])
      clear h1 h2 h3 h4 h5 h6 h9
      go_enter Tryz.func19, Tryz.ntmps19
      go_wp2_with (first
        | (go_at_call 28; refine cH.out.mono ?_; rintro e w5 ⟨rfl, f5⟩; obtain ⟨c0, c1, c2, c3⟩ := HKK.out _ f5)
        | (refine wp_alloc 41 rfl rfl _ zeroN _ rfl ?_; intro wa ga hga hca fa)
        | (refine wp_storeC 41 rfl _ _ rfl ga _ (ndC K NM VL p) rfl rfl hca infoN rfl (ndC_one _ _ _ _) ?_; intro wb hcb fb; have FB := Hid.mk (show Fr [] w wb from (f5.trans fa).then fb (fun j hj hm => (by simp at hm; have := f5.size; omega))); have n0 : wb.cell? ⟨ga, 0, none⟩ = some (.int .u8 (K : Int)) := hcb.cell 0; have n1 : wb.cell? ⟨ga, 1, none⟩ = some (.string NM) := hcb.cell 1; clear hca fa fb hcb c0 c1 c2 c3)
        | go_in)
      go_ret
      exact ⟨by rw [HT.out]; rfl, FB.out⟩
end Go.Proofs.YtdfgmdddnehocaaGreatDoor

namespace Go.Proofs.YtdfgmdddnehocaaGreatDoor
open Go.RowKit Go.Maps Go.Lib

theorem sameInts_eq' (w u1 u2 : World) (v1 v2 : Value) (l : List Nat) (h1 : Ints u1 w v1 l) (h2 : Ints u2 w v2 l) (hb : l.length ≤ 100000) :
    Calls Tryz.prog 6 #[v1, v2] w fun e w' => e = .returned (.bool true) ∧ Fr [] w w' := by
  refine (sameInts_any w u1 u2 v1 v2 l l h1 h2 hb).mono ?_
  rintro e w' ⟨rfl, f⟩
  exact ⟨by rw [decide_eq_true rfl], f⟩
theorem kidsS_len {t : List Nd} (k : Int) (h : t.length ≤ 300) : (kidsS t k).length ≤ 100000 := by
  unfold kidsS
  split
  · rename_i hh
    obtain ⟨m, rfl, hm, _, _⟩ := has_iff hh
    have := Nat.le_trans (kidsTo_len t (m : Int) (endOf t (m : Int))) (end_len t m hm)
    exact Nat.le_trans this (by omega)
  · simp
theorem attrsS_len {t : List Nd} (k : Int) (h : t.length ≤ 300) : (attrsS t k).length ≤ 100000 := by
  unfold attrsS
  split
  · rename_i hh
    obtain ⟨m, rfl, hm, _, _⟩ := has_iff hh
    rw [Int.toNat_natCast, attrs_len]
    have := (attrEnds_is (t := t) hm).le
    omega
  · simp
theorem partS_len {t : List Nd} (k : Int) (h : t.length ≤ 300) : (partS t k).length ≤ 16384 := by
  unfold partS
  split
  · rename_i hh
    obtain ⟨m, rfl, hm, _, _⟩ := has_iff hh
    rw [Int.toNat_natCast, part_len]
    have := end_len t m hm
    omega
  · simp
theorem sameN_two (w u1 u2 : World) (v1 v2 : Value) (l : List Nd) (h1 : Nodes u1 w v1 l) (h2 : Nodes u2 w v2 l) (hb : l.length ≤ 16384) :
    Calls Tryz.prog 16 #[v1, v2] w fun e w' => e = .returned (.bool true) ∧ Fr [] w w' := by
  obtain ⟨a1, c1, rfl, _, n1, _⟩ := h1.shape
  obtain ⟨a2, c2, rfl, _, n2, _⟩ := h2.shape
  exact sameN_any w a1 a2 c1 c2 _ l rfl hb n1 n2
set_option maxHeartbeats 8000000 in
set_option maxRecDepth 100000 in
theorem treeTells_law (w : World) (L : LaidW w) (ad : Option Addr) (c n : Nat) (t : List Nd) (hn : t.length = n) (hN : NodesAt w ad t) (hS : Sane t) (hZ : Short t) (hnil : ad = none → c = 0) (k ax ts : Int) (nm : ByteArray) :
    Calls Tryz.prog 3 #[.slice ad n c, .int .i64 k, .int .u8 ax, .int .u8 ts, .string nm] w fun e w' => e = .returned (.bool true) ∧ Fr [] w w' := by
  have cA := Hid.mk (awake_any w L)
  have HA := Hid.mk hN
  have HN := Hid.mk hn
  by_cases hl : n ≤ 300
  · have hl' : ¬ (300 : Int) < (n : Int) := by omega
    have cL := Hid.mk (fun w' (f : Fr [] w w') => lent_any w' ad c n t hn (hN.kept f) hl hnil)
    have hcap := Hid.mk (fun w' g cap (le : LentN w' g cap t) => (by have h5 := le.cap; omega : n ≤ cap))
    have p1 := Hid.mk (fun w' (f : Fr [] w w') g cap (le : LentN w' g cap t) => Kids_any w' (L.kept f) (some ⟨g, 0, none⟩) n cap t hn le.nodes.at hS k)
    have r1 := Hid.mk (fun w' (f : Fr [] w w') => refKids_any w' ad n c t hn (hN.kept f) hl hZ k)
    have p2 := Hid.mk (fun w' (f : Fr [] w w') g cap (le : LentN w' g cap t) => Attrs_any w' (L.kept f) (some ⟨g, 0, none⟩) n cap t hn le.nodes.at hS k)
    have r2 := Hid.mk (fun w' (f : Fr [] w w') => refAttrs_any w' ad n c t hn (hN.kept f) hl hZ k)
    have p3 := Hid.mk (fun w' (f : Fr [] w w') g cap (le : LentN w' g cap t) => End_any w' (L.kept f) (some ⟨g, 0, none⟩) cap n t hn le.nodes.at hS k)
    have r3 := Hid.mk (fun w' (f : Fr [] w w') => refEnd_any w' ad n c t hn (hN.kept f) hl hZ k)
    have p4 := Hid.mk (fun w' (f : Fr [] w w') g cap (le : LentN w' g cap t) => Text_any w' (L.kept f) (some ⟨g, 0, none⟩) cap n t hn (hcap.out w' g cap le) le.nodes.at hS k)
    have r4 := Hid.mk (fun w' (f : Fr [] w w') => refText_any w' ad n c t hn (hN.kept f) hl hZ k)
    have p5 := Hid.mk (fun w' (f : Fr [] w w') g cap (le : LentN w' g cap t) => Part_any w' (L.kept f) (some ⟨g, 0, none⟩) cap n t hn (hcap.out w' g cap le) le.nodes.at hS k)
    have r5 := Hid.mk (fun w' (f : Fr [] w w') => refPart_any w' ad n c t hn (hN.kept f) hl hZ k)
    have p6 := Hid.mk (fun w' (f : Fr [] w w') g cap (le : LentN w' g cap t) => Takes_any w' (L.kept f) (some ⟨g, 0, none⟩) cap n t hn le.nodes.at hS k ax ts nm)
    have r6 := Hid.mk (fun w' (f : Fr [] w w') => refTakes_any w' ad c n t hn (hN.kept f) hl hZ k ax ts nm)
    have q1 := Hid.mk (kidsS_len k (by omega : t.length ≤ 300))
    have q2 := Hid.mk (attrsS_len k (by omega : t.length ≤ 300))
    have q5 := Hid.mk (partS_len k (by omega : t.length ≤ 300))
    generalize kidsS t k = L1 at p1 r1 q1
    generalize attrsS t k = L2 at p2 r2 q2
    generalize endS t k = E at p3 r3
    generalize mkS (textS t k) = TX at p4 r4
    generalize partS t k = L5 at p5 r5 q5
    generalize takesS t k ax ts nm = B6 at p6 r6
    clear L hN hn hnil hS hZ hcap
    go_enter Tryz.func3, Tryz.ntmps3
    go_wp2_with fail
    refine (cA.out).mono ?_
    rintro e w1 ⟨rfl, f1⟩
    go_wp2_with fail
    refine (cL.out _ f1).mono ?_
    rintro e w2 ⟨⟨g, cap, rfl, le2, hg⟩, f2⟩
    have FF := Hid.mk (f1.trans f2)
    have LE := Hid.mk le2
    clear le2 hg f1 f2
    go_wp2_with fail
    refine (p1.out _ FF.out g cap LE.out).mono ?_
    rintro e w3 ⟨⟨v3, rfl, hv3⟩, f3⟩
    replace FF := Hid.mk (FF.out.trans f3)
    replace LE := Hid.mk (LE.out.kept f3)
    have V3 := Hid.mk hv3
    clear hv3 f3
    go_wp2_with fail
    refine (r1.out _ FF.out).mono ?_
    rintro e w4 ⟨⟨v4, rfl, hv4⟩, f4⟩
    replace FF := Hid.mk (FF.out.trans f4)
    replace LE := Hid.mk (LE.out.kept f4)
    replace V3 := Hid.mk (V3.out.kept0 f4)
    have V4 := Hid.mk hv4
    clear hv4 f4
    go_wp2_with fail
    refine (sameInts_eq' _ w2 w3 v3 v4 L1 V3.out V4.out q1.out).mono ?_
    rintro e w5 ⟨rfl, f5⟩
    replace FF := Hid.mk (FF.out.trans f5)
    replace LE := Hid.mk (LE.out.kept f5)
    clear f5
    go_wp2_with fail
    refine (p2.out _ FF.out g cap LE.out).mono ?_
    rintro e w6 ⟨⟨v6, rfl, hv6⟩, f6⟩
    replace FF := Hid.mk (FF.out.trans f6)
    replace LE := Hid.mk (LE.out.kept f6)
    have V6 := Hid.mk hv6
    clear hv6 f6
    go_wp2_with fail
    refine (r2.out _ FF.out).mono ?_
    rintro e w7 ⟨⟨v7, rfl, hv7⟩, f7⟩
    replace FF := Hid.mk (FF.out.trans f7)
    replace LE := Hid.mk (LE.out.kept f7)
    replace V6 := Hid.mk (V6.out.kept0 f7)
    have V7 := Hid.mk hv7
    clear hv7 f7
    go_wp2_with fail
    refine (sameInts_eq' _ w5 w6 v6 v7 L2 V6.out V7.out q2.out).mono ?_
    rintro e w8 ⟨rfl, f8⟩
    replace FF := Hid.mk (FF.out.trans f8)
    replace LE := Hid.mk (LE.out.kept f8)
    clear f8
    go_wp2_with fail
    refine (p3.out _ FF.out g cap LE.out).mono ?_
    rintro e w9 ⟨rfl, f9⟩
    replace FF := Hid.mk (FF.out.trans f9)
    replace LE := Hid.mk (LE.out.kept f9)
    clear f9
    go_wp2_with fail
    refine (r3.out _ FF.out).mono ?_
    rintro e w10 ⟨rfl, f10⟩
    replace FF := Hid.mk (FF.out.trans f10)
    replace LE := Hid.mk (LE.out.kept f10)
    clear f10
    go_wp2_with fail
    refine (p4.out _ FF.out g cap LE.out).mono ?_
    rintro e w11 ⟨rfl, f11⟩
    replace FF := Hid.mk (FF.out.trans f11)
    replace LE := Hid.mk (LE.out.kept f11)
    clear f11
    go_wp2_with fail
    refine (r4.out _ FF.out).mono ?_
    rintro e w12 ⟨rfl, f12⟩
    replace FF := Hid.mk (FF.out.trans f12)
    replace LE := Hid.mk (LE.out.kept f12)
    clear f12
    go_wp2_with fail
    refine (p5.out _ FF.out g cap LE.out).mono ?_
    rintro e w13 ⟨⟨v13, rfl, hv13⟩, f13⟩
    replace FF := Hid.mk (FF.out.trans f13)
    replace LE := Hid.mk (LE.out.kept f13)
    have V13 := Hid.mk hv13
    clear hv13 f13
    go_wp2_with fail
    refine (r5.out _ FF.out).mono ?_
    rintro e w14 ⟨⟨v14, rfl, hv14⟩, f14⟩
    replace FF := Hid.mk (FF.out.trans f14)
    replace LE := Hid.mk (LE.out.kept f14)
    replace V13 := Hid.mk (V13.out.kept0 f14)
    have V14 := Hid.mk hv14
    clear hv14 f14
    go_wp2_with fail
    refine (sameN_two _ w12 w13 v13 v14 L5 V13.out V14.out q5.out).mono ?_
    rintro e w15 ⟨rfl, f15⟩
    replace FF := Hid.mk (FF.out.trans f15)
    replace LE := Hid.mk (LE.out.kept f15)
    clear f15
    go_wp2_with fail
    refine (p6.out _ FF.out g cap LE.out).mono ?_
    rintro e w16 ⟨rfl, f16⟩
    replace FF := Hid.mk (FF.out.trans f16)
    replace LE := Hid.mk (LE.out.kept f16)
    clear f16
    go_wp2_with fail
    refine (r6.out _ FF.out).mono ?_
    rintro e w17 ⟨rfl, f17⟩
    replace FF := Hid.mk (FF.out.trans f17)
    replace LE := Hid.mk (LE.out.kept f17)
    clear f17
    go_wp2_with fail
    refine (keptN_any _ g cap n c ad t HN.out hl LE.out (HA.out.kept FF.out)).mono ?_
    rintro e w90 ⟨rfl, f90⟩
    go_wp2_with fail
    go_ret
    exact ⟨rfl, FF.out.trans f90⟩
  · have hl' : (300 : Int) < (n : Int) := by omega
    clear L hN hn hnil hS hZ
    go_enter Tryz.func3, Tryz.ntmps3
    go_wp2_with (go_at_call 4; refine (cA.out).mono ?_; rintro e w1 ⟨rfl, f1⟩)
    go_ret
    exact ⟨rfl, f1⟩
end Go.Proofs.YtdfgmdddnehocaaGreatDoor

