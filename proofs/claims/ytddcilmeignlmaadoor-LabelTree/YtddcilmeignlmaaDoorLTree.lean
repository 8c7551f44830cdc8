/-
  LabelTree: the walk.
-/
import Derived.Test.YtddcilmeignlmaaDoorLTreeV
namespace Go.Proofs.YtddcilmeignlmaaDoor
open Go.RowKit Go.Maps Go.Lib

set_option linter.unusedSimpArgs false in
set_option maxHeartbeats 40000000 in
set_option maxRecDepth 100000 in
theorem tree_law (w : World) (hL : Laid w) (pa : Option Addr) (pn pc : Nat) (P : List Int) (hpl : P.length = pn) (hpn : pn ≤ 60) (hP : WidAt w pa P) (hwf : ∀ x ∈ P, (Lit.int .i64 x).wf = true) :
    Calls Tryd.prog 5 #[.slice pa pn pc] w fun e w' => e = .returned (.bool true) ∧ Fr [] w w' := by
  have hpn' : (pn : Int) ≤ 60 := by omega
  have HPl := Lib.hid hpl
  have HW := Lib.hid hwf
  have HP := Lib.hid hP
  have HL := Lib.hid hL
  clear hpl hwf hP
  go_enter Tryd.func5, Tryd.ntmps5
  go_wp2_with fail
  refine (awake_any _ hL).mono ?_
  rintro e w1 ⟨rfl, f1⟩
  clear hL
  go_wp2_with (first
    | (refine wp_appL rfl _ _ rfl _ 0 [] rfl (World.ownsRow_nil _ _ _ _) w1.heap.size 1 (.slice none 0 0) rfl (lit_cell _ _) rfl (by omega) ?_; intro g0 cap0 w2 o2 f2 at2 lt2)
    | go_in)
  have f12 : Fr [] w1 w2 := (frA w1 _).trans f2
  have hI0 : Inv w1 w2 (.slice none 0 0) (.slice (some ⟨g0, 0, none⟩) 1 cap0) [] [⟨none, 0, 0, [], []⟩] := by
    refine ⟨⟨RowP.nil _ _, RowP.push (e := ⟨none, 0, 0, [], []⟩) (RowP.nil w1 (w1.alloc (.cells #[.slice none 0 0] 22))) (by simp) o2 at2, (fun g h => by cases h), ?_, Tour.start, f12⟩, by simp, by simp⟩
    intro e he
    have : e = ⟨none, 0, 0, [], []⟩ := by simpa using he
    subst this
    exact pat_nil _
  have HI0 := Lib.hid hI0
  clear hI0 o2 at2 f2 lt2 f12
  have HF1 := Lib.hid f1
  clear f1
  go_loopw [3, 4, 5] (fun s3 s4 s5 wr => ∃ (R O : List PEnt) (j : Nat), s5 = .int .i64 (j : Int) ∧ j ≤ pn ∧ Hid (Inv w1 wr s3 s4 R O)) (fun s3 _ _ _ => 300 - sLen s3)
  case atStart => exact ⟨[], [⟨none, 0, 0, [], []⟩], 0, rfl, by omega, HI0⟩
  case round =>
    obtain ⟨R, O, j, rfl, hj, hI⟩ := hrel
    obtain ⟨adr, capr, rfl, hcr, hr⟩ := hI.out.1.row.shape
    obtain ⟨ado, capo, rfl, hco, ho⟩ := hI.out.1.open_.shape
    have hR3 := hI.out.2.1
    have hO3 := hI.out.2.2
    have hj0 : (0 : Int) ≤ (j : Int) := by omega
    clear HI0
    by_cases hgo : O.length = 0 ∨ R.length = 300
    · have hT := Lib.hid hI.out.1
      obtain ⟨RL, hRL⟩ : ∃ RL, R.length = RL := ⟨_, rfl⟩
      have HRL := Lib.hid hRL
      obtain ⟨OL, hOL⟩ : ∃ OL, O.length = OL := ⟨_, rfl⟩
      rw [hRL, hOL] at hgo
      rw [hRL] at hR3 hcr hT ⊢
      rw [hOL] at hT ⊢
      clear hRL hOL hI ho hO3 hco hr
      have hRLb : (RL : Int) ≤ 300 := by omega
      by_cases hO0 : OL = 0
      · have hO0' : ¬ (0 : Int) < (OL : Int) := by omega
        clear hgo
        as_aux_lemma =>
        go_wp2
        have HT := Lib.hid hT.out.told
        clear hT
        go_loopw [11] (fun s11 wr => ∃ i : Nat, i ≤ RL ∧ s11 = .int .i64 (i : Int) ∧ Hid (Told w1 wr (.slice adr RL capr) R)) (fun s11 _ => RL - (RowKit.intOf s11).toNat)
        case atStart => exact ⟨0, Nat.zero_le _, rfl, HT⟩
        case round =>
          obtain ⟨i, hi, rfl, hTo⟩ := hrel
          clear HT
          have hi0 : (0 : Int) ≤ (i : Int) := by omega
          by_cases hlt : i < RL
          · have hlt' : (i : Int) < (RL : Int) := by omega
            obtain ⟨gr, x, rfl, hx, hqx, hpx⟩ := hTo.out.at (i := i) (by rw [HRL.out]; exact hlt)
            obtain ⟨xa, xn, xc, xl, xp⟩ := x
            have cAf := Lib.hid (after_fine _ xa xn xc xl xp hpx)
            have HX := Lib.hid hx
            clear hpx hx
            go_wp2_with (go_at_call 21; refine cAf.out.mono ?_; rintro e w5 ⟨ea, en, ec, el, rfl, hAf, f5⟩)
            have HT5 := Lib.hid (hTo.out.kept f5)
            have HR := Lib.hid hAf.out.2.2
            have HA5 := Lib.hid (show el.length = en ∧ BytesAt w5 ea el from ⟨hAf.out.1, hAf.out.2.1⟩)
            clear cAf hAf f5 hTo hqx
            go_loopw [13] (fun s13 wk => ∃ k : Nat, k ≤ RL ∧ s13 = .int .i64 (k : Int) ∧ Hid (Told w1 wk (.slice (some ⟨gr, 0, none⟩) RL capr) R) ∧ Hid (el.length = en ∧ BytesAt wk ea el)) (fun s13 _ => RL - (RowKit.intOf s13).toNat)
            case atStart => exact ⟨0, Nat.zero_le _, rfl, HT5, HA5⟩
            case round =>
              obtain ⟨k, hk, rfl, hTk, hAk⟩ := hrel
              clear HT5 HA5
              have hk0 : (0 : Int) ≤ (k : Int) := by omega
              by_cases hkl : k < RL
              · have hkl' : (k : Int) < (RL : Int) := by omega
                obtain ⟨_, y, eg, hy, hqy, hpy⟩ := hTk.out.at (i := k) (by rw [HRL.out]; exact hkl)
                cases eg
                obtain ⟨_, x', eg, hx', hqx, hpx⟩ := hTk.out.at (i := i) (by rw [HRL.out]; exact hlt)
                cases eg
                obtain rfl : x' = ⟨xa, xn, xc, xl, xp⟩ := Option.some.inj (hx'.symm.trans HX.out)
                obtain ⟨ya, yn, yc, yl, yp⟩ := y
                have hcmp := tour_cmp hTk.out.told hTk.out.ents hx' hy
                have fD : ∀ n, Fr [] wr (wr.drewN n) := fun n => ⟨rfl, rfl, rfl, Nat.le_refl _, fun _ _ _ => rfl⟩
                have cC : ∀ n, Calls Tryd.prog 20 #[.slice xa xn xc, .slice ya yn yc] (wr.drewN n) fun e w' => e = .returned (.int .i64 (compareBytes xl yl)) ∧ w' = wr.drewN n := fun n => (compareL_any _ xa ya xn yn xc yc xl yl hpx.len hpy.len (hpx.bytes.kept (fD n) (by simp)) (hpy.bytes.kept (fD n) (by simp))).mono fun e w' ⟨h1, h2⟩ => ⟨h1, h2.symm⟩
                rw [show compareBytes xl yl = _ from hcmp] at cC
                have hsame : ∀ n, Told w1 (wr.drewN n) (.slice (some ⟨gr, 0, none⟩) RL capr) R ∧ (el.length = en ∧ BytesAt (wr.drewN n) ea el) := fun n => ⟨hTk.out.kept (fD n), hAk.out.1, hAk.out.2.kept (fD n) (by simp)⟩
                have HS := Lib.hid hsame
                rcases Nat.lt_trichotomy i k with hik | hik | hik
                · have hik' : (i : Int) < (k : Int) := by omega
                  have hik2 : ¬ (k : Int) < (i : Int) := by omega
                  rw [if_pos hik] at cC
                  have CC := Lib.hid cC
                  by_cases hi00 : i = 0
                  · have hi00' : ¬ (0 : Int) < (i : Int) := by omega
                    have hi00'' : decide (0 < i) = false := decide_eq_false (by omega)
                    have hi00b : decide ((0 : Int) < (i : Int)) = false := decide_eq_false (by omega)
                    clear cC hcmp hx' hy hpx hpy hi00 hsame fD
                    go_wp2
                    go_quiet ((go_at_call 20; exact Calls.quiet_of_same (CC.out _)))
                    go_wp2
                    go_quiet (fail)
                    go_wp2
                    exact ⟨⟨k + 1, by omega, by go_num, (HS.out _).1, (HS.out _).2⟩, by simp [RowKit.intOf]; omega⟩
                  · have hi00' : (0 : Int) < (i : Int) := by omega
                    have hi00'' : decide (0 < i) = true := decide_eq_true (by omega)
                    have hi00b : decide ((0 : Int) < (i : Int)) = true := decide_eq_true (by omega)
                    have hikb : decide ((i : Int) < (k : Int)) = true := decide_eq_true (by omega)
                    have habv := tour_abv hTk.out.told hTk.out.ents hx' hy (by omega) hik HR.out
                    have hne : (abv xp yp != decide (compareBytes yl el < 0)) = false := by rw [show abv xp yp = decide (compareBytes yl el < 0) from habv]; simp
                    have HPX := Lib.hid hpx
                    have HPY := Lib.hid hpy
                    have HFD := Lib.hid fD
                    have HQ : Hid (∀ w', Fr [] wr w' → w'.cell? ⟨gr, i, none⟩ = some (.slice xa xn xc) ∧ w'.cell? ⟨gr, k, none⟩ = some (.slice ya yn yc)) := fun w' f => ⟨(World.cell?_of_block (f.block gr (block_lt_of_cell hqx) (by simp))).trans hqx, (World.cell?_of_block (f.block gr (block_lt_of_cell hqy) (by simp))).trans hqy⟩
                    have HLE := Lib.hid hAk.out.1
                    have HBE := Lib.hid hAk.out.2
                    clear cC hcmp hx' hy hpx hpy hi00 hsame fD habv
                    generalize hcv : compareBytes yl el = cv at hne
                    have HCV := Lib.hid hcv
                    generalize hab : abv xp yp = ab at hne
                    have HAB := Lib.hid hab
                    clear hcv hab
                    have hcase : (ab = true ∧ cv < 0) ∨ (ab = false ∧ ¬ cv < 0) := by
                      cases ab with
                      | true => exact Or.inl ⟨rfl, by simpa using hne⟩
                      | false => exact Or.inr ⟨rfl, by simpa using hne⟩
                    clear hne
                    rcases hcase with ⟨rfl, hcv⟩ | ⟨rfl, hcv⟩
                    · have hcd : decide (cv < 0) = true := decide_eq_true hcv
                      go_wp2
                      go_quiet ((go_at_call 20; exact Calls.quiet_of_same (CC.out _)))
                      go_wp2
                      have gg : Fr [] wr ((wr.drewN nq).drew) := HFD.out (nq + 1)
                      clear hqx hqy
                      go_region_held3 (fun w' => w'.cell? ⟨gr, i, none⟩ = some (.slice xa xn xc) ∧ w'.cell? ⟨gr, k, none⟩ = some (.slice ya yn yc)) (exact HQ.out _ gg)
                        ((first
                          | (go_at_call 19; refine (above_yes _ xa ya xn yn xc yc xl yl xp yp HPX.out.lab HPY.out.lab HPX.out.len HPY.out.len (HPX.out.bytes.kept gg (by simp)) (HPY.out.bytes.kept gg (by simp)) HPX.out.plain HPY.out.plain).mono ?_; rw [HAB.out]; rintro e w2 ⟨rfl, f2⟩; replace gg := gg.trans f2)
                          | (go_at_call 20; refine (compareL_any _ ya ea yn en yc ec yl el HPY.out.len HLE.out (HPY.out.bytes.kept gg (by simp)) (HBE.out.kept gg (by simp))).mono ?_; rw [HCV.out]; rintro e w2 ⟨rfl, rfl⟩)))
                      go_wp2
                      exact ⟨⟨k + 1, by omega, by go_num, hTk.out.kept gg, ⟨HLE.out, HBE.out.kept gg (by simp)⟩⟩, by simp [RowKit.intOf]; omega⟩
                    · have hcd : decide (cv < 0) = false := decide_eq_false hcv
                      go_wp2
                      go_quiet ((go_at_call 20; exact Calls.quiet_of_same (CC.out _)))
                      go_wp2
                      have gg : Fr [] wr ((wr.drewN nq).drew) := HFD.out (nq + 1)
                      clear hqx hqy
                      go_region_held3 (fun w' => w'.cell? ⟨gr, i, none⟩ = some (.slice xa xn xc) ∧ w'.cell? ⟨gr, k, none⟩ = some (.slice ya yn yc)) (exact HQ.out _ gg)
                        ((first
                          | (go_at_call 19; refine (above_yes _ xa ya xn yn xc yc xl yl xp yp HPX.out.lab HPY.out.lab HPX.out.len HPY.out.len (HPX.out.bytes.kept gg (by simp)) (HPY.out.bytes.kept gg (by simp)) HPX.out.plain HPY.out.plain).mono ?_; rw [HAB.out]; rintro e w2 ⟨rfl, f2⟩; replace gg := gg.trans f2)
                          | (go_at_call 20; refine (compareL_any _ ya ea yn en yc ec yl el HPY.out.len HLE.out (HPY.out.bytes.kept gg (by simp)) (HBE.out.kept gg (by simp))).mono ?_; rw [HCV.out]; rintro e w2 ⟨rfl, rfl⟩)))
                      go_wp2
                      exact ⟨⟨k + 1, by omega, by go_num, hTk.out.kept gg, ⟨HLE.out, HBE.out.kept gg (by simp)⟩⟩, by simp [RowKit.intOf]; omega⟩
                · rw [if_neg (by omega), if_neg (by omega)] at cC
                  have CC := Lib.hid cC
                  have hik1 : ¬ (i : Int) < (k : Int) := by omega
                  have hik2 : ¬ (k : Int) < (i : Int) := by omega
                  have hik3 : decide (i < k) = false := decide_eq_false (by omega)
                  have hik4 : decide ((i : Int) < (k : Int)) = false := decide_eq_false (by omega)
                  clear cC hcmp hx' hy hpx hpy hsame fD hik
                  by_cases hi00 : i = 0
                  · have hi00' : ¬ (0 : Int) < (i : Int) := by omega
                    have hi00'' : decide (0 < i) = false := decide_eq_false (by omega)
                    have hi00b : decide ((0 : Int) < (i : Int)) = false := decide_eq_false (by omega)
                    clear hi00
                    go_wp2
                    go_quiet ((go_at_call 20; exact Calls.quiet_of_same (CC.out _)))
                    go_wp2
                    go_quiet (fail)
                    go_wp2
                    exact ⟨⟨k + 1, by omega, by go_num, (HS.out _).1, (HS.out _).2⟩, by simp [RowKit.intOf]; omega⟩
                  · have hi00' : (0 : Int) < (i : Int) := by omega
                    have hi00'' : decide (0 < i) = true := decide_eq_true (by omega)
                    have hi00b : decide ((0 : Int) < (i : Int)) = true := decide_eq_true (by omega)
                    clear hi00
                    go_wp2
                    go_quiet ((go_at_call 20; exact Calls.quiet_of_same (CC.out _)))
                    go_wp2
                    go_quiet (fail)
                    go_wp2
                    exact ⟨⟨k + 1, by omega, by go_num, (HS.out _).1, (HS.out _).2⟩, by simp [RowKit.intOf]; omega⟩
                · rw [if_neg (by omega), if_pos hik] at cC
                  have CC := Lib.hid cC
                  have hik1 : ¬ (i : Int) < (k : Int) := by omega
                  have hik2 : (k : Int) < (i : Int) := by omega
                  have hik3 : decide (i < k) = false := decide_eq_false (by omega)
                  have hik4 : decide ((i : Int) < (k : Int)) = false := decide_eq_false (by omega)
                  have hi00' : (0 : Int) < (i : Int) := by omega
                  have hi00'' : decide (0 < i) = true := decide_eq_true (by omega)
                  have hi00b : decide ((0 : Int) < (i : Int)) = true := decide_eq_true (by omega)
                  clear cC hcmp hx' hy hpx hpy hsame fD hik
                  go_wp2
                  go_quiet ((go_at_call 20; exact Calls.quiet_of_same (CC.out _)))
                  go_wp2
                  go_quiet (fail)
                  go_wp2
                  exact ⟨⟨k + 1, by omega, by go_num, (HS.out _).1, (HS.out _).2⟩, by simp [RowKit.intOf]; omega⟩
              · obtain rfl : k = RL := by omega
                go_wp2
                exact ⟨⟨i + 1, by omega, by go_num, hTk⟩, by simp [RowKit.intOf]; omega⟩
          · obtain rfl : i = RL := by omega
            go_wp2
            go_ret
            exact ⟨rfl, HF1.out.trans hTo.out.fr⟩
      · have hO0' : (0 : Int) < (OL : Int) := by omega
        have hRL0 : RL = 300 := by rcases hgo with h | h <;> omega
        have hRL1 : ¬ (RL : Int) < 300 := by omega
        clear hgo hRL0
        as_aux_lemma =>
        go_wp2
        have HT := Lib.hid hT.out.told
        clear hT
        go_loopw [11] (fun s11 wr => ∃ i : Nat, i ≤ RL ∧ s11 = .int .i64 (i : Int) ∧ Hid (Told w1 wr (.slice adr RL capr) R)) (fun s11 _ => RL - (RowKit.intOf s11).toNat)
        case atStart => exact ⟨0, Nat.zero_le _, rfl, HT⟩
        case round =>
          obtain ⟨i, hi, rfl, hTo⟩ := hrel
          clear HT
          have hi0 : (0 : Int) ≤ (i : Int) := by omega
          by_cases hlt : i < RL
          · have hlt' : (i : Int) < (RL : Int) := by omega
            obtain ⟨gr, x, rfl, hx, hqx, hpx⟩ := hTo.out.at (i := i) (by rw [HRL.out]; exact hlt)
            obtain ⟨xa, xn, xc, xl, xp⟩ := x
            have cAf := Lib.hid (after_fine _ xa xn xc xl xp hpx)
            have HX := Lib.hid hx
            clear hpx hx
            go_wp2_with (go_at_call 21; refine cAf.out.mono ?_; rintro e w5 ⟨ea, en, ec, el, rfl, hAf, f5⟩)
            have HT5 := Lib.hid (hTo.out.kept f5)
            have HR := Lib.hid hAf.out.2.2
            have HA5 := Lib.hid (show el.length = en ∧ BytesAt w5 ea el from ⟨hAf.out.1, hAf.out.2.1⟩)
            clear cAf hAf f5 hTo hqx
            go_loopw [13] (fun s13 wk => ∃ k : Nat, k ≤ RL ∧ s13 = .int .i64 (k : Int) ∧ Hid (Told w1 wk (.slice (some ⟨gr, 0, none⟩) RL capr) R) ∧ Hid (el.length = en ∧ BytesAt wk ea el)) (fun s13 _ => RL - (RowKit.intOf s13).toNat)
            case atStart => exact ⟨0, Nat.zero_le _, rfl, HT5, HA5⟩
            case round =>
              obtain ⟨k, hk, rfl, hTk, hAk⟩ := hrel
              clear HT5 HA5
              have hk0 : (0 : Int) ≤ (k : Int) := by omega
              by_cases hkl : k < RL
              · have hkl' : (k : Int) < (RL : Int) := by omega
                obtain ⟨_, y, eg, hy, hqy, hpy⟩ := hTk.out.at (i := k) (by rw [HRL.out]; exact hkl)
                cases eg
                obtain ⟨_, x', eg, hx', hqx, hpx⟩ := hTk.out.at (i := i) (by rw [HRL.out]; exact hlt)
                cases eg
                obtain rfl : x' = ⟨xa, xn, xc, xl, xp⟩ := Option.some.inj (hx'.symm.trans HX.out)
                obtain ⟨ya, yn, yc, yl, yp⟩ := y
                have hcmp := tour_cmp hTk.out.told hTk.out.ents hx' hy
                have fD : ∀ n, Fr [] wr (wr.drewN n) := fun n => ⟨rfl, rfl, rfl, Nat.le_refl _, fun _ _ _ => rfl⟩
                have cC : ∀ n, Calls Tryd.prog 20 #[.slice xa xn xc, .slice ya yn yc] (wr.drewN n) fun e w' => e = .returned (.int .i64 (compareBytes xl yl)) ∧ w' = wr.drewN n := fun n => (compareL_any _ xa ya xn yn xc yc xl yl hpx.len hpy.len (hpx.bytes.kept (fD n) (by simp)) (hpy.bytes.kept (fD n) (by simp))).mono fun e w' ⟨h1, h2⟩ => ⟨h1, h2.symm⟩
                rw [show compareBytes xl yl = _ from hcmp] at cC
                have hsame : ∀ n, Told w1 (wr.drewN n) (.slice (some ⟨gr, 0, none⟩) RL capr) R ∧ (el.length = en ∧ BytesAt (wr.drewN n) ea el) := fun n => ⟨hTk.out.kept (fD n), hAk.out.1, hAk.out.2.kept (fD n) (by simp)⟩
                have HS := Lib.hid hsame
                rcases Nat.lt_trichotomy i k with hik | hik | hik
                · have hik' : (i : Int) < (k : Int) := by omega
                  have hik2 : ¬ (k : Int) < (i : Int) := by omega
                  rw [if_pos hik] at cC
                  have CC := Lib.hid cC
                  by_cases hi00 : i = 0
                  · have hi00' : ¬ (0 : Int) < (i : Int) := by omega
                    have hi00'' : decide (0 < i) = false := decide_eq_false (by omega)
                    have hi00b : decide ((0 : Int) < (i : Int)) = false := decide_eq_false (by omega)
                    clear cC hcmp hx' hy hpx hpy hi00 hsame fD
                    go_wp2
                    go_quiet ((go_at_call 20; exact Calls.quiet_of_same (CC.out _)))
                    go_wp2
                    go_quiet (fail)
                    go_wp2
                    exact ⟨⟨k + 1, by omega, by go_num, (HS.out _).1, (HS.out _).2⟩, by simp [RowKit.intOf]; omega⟩
                  · have hi00' : (0 : Int) < (i : Int) := by omega
                    have hi00'' : decide (0 < i) = true := decide_eq_true (by omega)
                    have hi00b : decide ((0 : Int) < (i : Int)) = true := decide_eq_true (by omega)
                    have hikb : decide ((i : Int) < (k : Int)) = true := decide_eq_true (by omega)
                    have habv := tour_abv hTk.out.told hTk.out.ents hx' hy (by omega) hik HR.out
                    have hne : (abv xp yp != decide (compareBytes yl el < 0)) = false := by rw [show abv xp yp = decide (compareBytes yl el < 0) from habv]; simp
                    have HPX := Lib.hid hpx
                    have HPY := Lib.hid hpy
                    have HFD := Lib.hid fD
                    have HQ : Hid (∀ w', Fr [] wr w' → w'.cell? ⟨gr, i, none⟩ = some (.slice xa xn xc) ∧ w'.cell? ⟨gr, k, none⟩ = some (.slice ya yn yc)) := fun w' f => ⟨(World.cell?_of_block (f.block gr (block_lt_of_cell hqx) (by simp))).trans hqx, (World.cell?_of_block (f.block gr (block_lt_of_cell hqy) (by simp))).trans hqy⟩
                    have HLE := Lib.hid hAk.out.1
                    have HBE := Lib.hid hAk.out.2
                    clear cC hcmp hx' hy hpx hpy hi00 hsame fD habv
                    generalize hcv : compareBytes yl el = cv at hne
                    have HCV := Lib.hid hcv
                    generalize hab : abv xp yp = ab at hne
                    have HAB := Lib.hid hab
                    clear hcv hab
                    have hcase : (ab = true ∧ cv < 0) ∨ (ab = false ∧ ¬ cv < 0) := by
                      cases ab with
                      | true => exact Or.inl ⟨rfl, by simpa using hne⟩
                      | false => exact Or.inr ⟨rfl, by simpa using hne⟩
                    clear hne
                    rcases hcase with ⟨rfl, hcv⟩ | ⟨rfl, hcv⟩
                    · have hcd : decide (cv < 0) = true := decide_eq_true hcv
                      go_wp2
                      go_quiet ((go_at_call 20; exact Calls.quiet_of_same (CC.out _)))
                      go_wp2
                      have gg : Fr [] wr ((wr.drewN nq).drew) := HFD.out (nq + 1)
                      clear hqx hqy
                      go_region_held3 (fun w' => w'.cell? ⟨gr, i, none⟩ = some (.slice xa xn xc) ∧ w'.cell? ⟨gr, k, none⟩ = some (.slice ya yn yc)) (exact HQ.out _ gg)
                        ((first
                          | (go_at_call 19; refine (above_yes _ xa ya xn yn xc yc xl yl xp yp HPX.out.lab HPY.out.lab HPX.out.len HPY.out.len (HPX.out.bytes.kept gg (by simp)) (HPY.out.bytes.kept gg (by simp)) HPX.out.plain HPY.out.plain).mono ?_; rw [HAB.out]; rintro e w2 ⟨rfl, f2⟩; replace gg := gg.trans f2)
                          | (go_at_call 20; refine (compareL_any _ ya ea yn en yc ec yl el HPY.out.len HLE.out (HPY.out.bytes.kept gg (by simp)) (HBE.out.kept gg (by simp))).mono ?_; rw [HCV.out]; rintro e w2 ⟨rfl, rfl⟩)))
                      go_wp2
                      exact ⟨⟨k + 1, by omega, by go_num, hTk.out.kept gg, ⟨HLE.out, HBE.out.kept gg (by simp)⟩⟩, by simp [RowKit.intOf]; omega⟩
                    · have hcd : decide (cv < 0) = false := decide_eq_false hcv
                      go_wp2
                      go_quiet ((go_at_call 20; exact Calls.quiet_of_same (CC.out _)))
                      go_wp2
                      have gg : Fr [] wr ((wr.drewN nq).drew) := HFD.out (nq + 1)
                      clear hqx hqy
                      go_region_held3 (fun w' => w'.cell? ⟨gr, i, none⟩ = some (.slice xa xn xc) ∧ w'.cell? ⟨gr, k, none⟩ = some (.slice ya yn yc)) (exact HQ.out _ gg)
                        ((first
                          | (go_at_call 19; refine (above_yes _ xa ya xn yn xc yc xl yl xp yp HPX.out.lab HPY.out.lab HPX.out.len HPY.out.len (HPX.out.bytes.kept gg (by simp)) (HPY.out.bytes.kept gg (by simp)) HPX.out.plain HPY.out.plain).mono ?_; rw [HAB.out]; rintro e w2 ⟨rfl, f2⟩; replace gg := gg.trans f2)
                          | (go_at_call 20; refine (compareL_any _ ya ea yn en yc ec yl el HPY.out.len HLE.out (HPY.out.bytes.kept gg (by simp)) (HBE.out.kept gg (by simp))).mono ?_; rw [HCV.out]; rintro e w2 ⟨rfl, rfl⟩)))
                      go_wp2
                      exact ⟨⟨k + 1, by omega, by go_num, hTk.out.kept gg, ⟨HLE.out, HBE.out.kept gg (by simp)⟩⟩, by simp [RowKit.intOf]; omega⟩
                · rw [if_neg (by omega), if_neg (by omega)] at cC
                  have CC := Lib.hid cC
                  have hik1 : ¬ (i : Int) < (k : Int) := by omega
                  have hik2 : ¬ (k : Int) < (i : Int) := by omega
                  have hik3 : decide (i < k) = false := decide_eq_false (by omega)
                  have hik4 : decide ((i : Int) < (k : Int)) = false := decide_eq_false (by omega)
                  clear cC hcmp hx' hy hpx hpy hsame fD hik
                  by_cases hi00 : i = 0
                  · have hi00' : ¬ (0 : Int) < (i : Int) := by omega
                    have hi00'' : decide (0 < i) = false := decide_eq_false (by omega)
                    have hi00b : decide ((0 : Int) < (i : Int)) = false := decide_eq_false (by omega)
                    clear hi00
                    go_wp2
                    go_quiet ((go_at_call 20; exact Calls.quiet_of_same (CC.out _)))
                    go_wp2
                    go_quiet (fail)
                    go_wp2
                    exact ⟨⟨k + 1, by omega, by go_num, (HS.out _).1, (HS.out _).2⟩, by simp [RowKit.intOf]; omega⟩
                  · have hi00' : (0 : Int) < (i : Int) := by omega
                    have hi00'' : decide (0 < i) = true := decide_eq_true (by omega)
                    have hi00b : decide ((0 : Int) < (i : Int)) = true := decide_eq_true (by omega)
                    clear hi00
                    go_wp2
                    go_quiet ((go_at_call 20; exact Calls.quiet_of_same (CC.out _)))
                    go_wp2
                    go_quiet (fail)
                    go_wp2
                    exact ⟨⟨k + 1, by omega, by go_num, (HS.out _).1, (HS.out _).2⟩, by simp [RowKit.intOf]; omega⟩
                · rw [if_neg (by omega), if_pos hik] at cC
                  have CC := Lib.hid cC
                  have hik1 : ¬ (i : Int) < (k : Int) := by omega
                  have hik2 : (k : Int) < (i : Int) := by omega
                  have hik3 : decide (i < k) = false := decide_eq_false (by omega)
                  have hik4 : decide ((i : Int) < (k : Int)) = false := decide_eq_false (by omega)
                  have hi00' : (0 : Int) < (i : Int) := by omega
                  have hi00'' : decide (0 < i) = true := decide_eq_true (by omega)
                  have hi00b : decide ((0 : Int) < (i : Int)) = true := decide_eq_true (by omega)
                  clear cC hcmp hx' hy hpx hpy hsame fD hik
                  go_wp2
                  go_quiet ((go_at_call 20; exact Calls.quiet_of_same (CC.out _)))
                  go_wp2
                  go_quiet (fail)
                  go_wp2
                  exact ⟨⟨k + 1, by omega, by go_num, (HS.out _).1, (HS.out _).2⟩, by simp [RowKit.intOf]; omega⟩
              · obtain rfl : k = RL := by omega
                go_wp2
                exact ⟨⟨i + 1, by omega, by go_num, hTk⟩, by simp [RowKit.intOf]; omega⟩
          · obtain rfl : i = RL := by omega
            go_wp2
            go_ret
            exact ⟨rfl, HF1.out.trans hTo.out.fr⟩

    · have hR : R.length < 300 := by omega
      have hR' : (R.length : Int) < 300 := by omega
      obtain ⟨O', x, rfl⟩ : ∃ O' x, O = O' ++ [x] := by
        have hne : O ≠ [] := fun e => hgo (Or.inl (by rw [e]; rfl))
        exact ⟨O.dropLast, O.getLast hne, (List.dropLast_concat_getLast hne).symm⟩
      rcases ho with ⟨_, e⟩ | ⟨go, rfl, hgo1, hcell⟩
      · simp at e
      have hq := hcell O'.length x (by simp)
      obtain ⟨m, hm⟩ : ∃ m, O'.length = m := ⟨_, rfl⟩
      have hlen : (O' ++ [x]).length = m + 1 := by simp [hm]
      rw [hlen] at hco hI ⊢
      rw [hm] at hq
      have HM := Lib.hid hm
      have HLen := Lib.hid hlen
      have hX := hI.out.1.ents x (by simp)
      have hm0 : (0 : Int) ≤ (m : Int) := by omega
      have hm2 : m ≤ 2000 := by rw [hlen] at hO3; omega
      clear hcell hlen hgo hm hr hgo1
      obtain ⟨xa, xn, xc, xl, xp⟩ := x
      have hq' : wr.cell? ⟨go, m, none⟩ = some (.slice xa xn xc) := hq
      clear hq
      have hdp : xp.length ≤ 12 := hX.deep
      obtain ⟨RL, hRL⟩ : ∃ RL, R.length = RL := ⟨_, rfl⟩
      have HRL := Lib.hid hRL
      rw [hRL] at hR hR' hR3 hcr hO3 hI ⊢
      clear hRL
      have HX := Lib.hid hX
      clear hX
      by_cases hused : j < pn
      · have hused' : (j : Int) < (pn : Int) := by omega
        by_cases hlev : xp.length < 12
        · have hlev' : (xp.length : Int) < 12 := by omega
          have gP : j < P.length := by rw [HPl.out]; exact hused
          obtain ⟨pb, po, epa, qx⟩ := HP.out j P[j] (List.getElem?_eq_getElem gP)
          subst epa
          have HWx := Lib.hid (HW.out P[j] (List.getElem_mem gP))
          obtain ⟨px, hpx⟩ : ∃ px, P[j] = px := ⟨_, rfl⟩
          rw [hpx] at qx HWx
          have HQ := Lib.hid qx
          clear hpx qx gP
          obtain ⟨N, hN, hn5⟩ : ∃ N : Nat, px % 6 = (N : Int) ∧ N ≤ 5 := by
            have h1 := Int.emod_nonneg px (show (6 : Int) ≠ 0 by omega)
            have h2 := Int.emod_lt_of_pos px (show (0 : Int) < 6 by omega)
            exact ⟨(px % 6).toNat, by omega, by omega⟩
          have HKe := Lib.hid hN
          clear hN
          have hN5 : (N : Int) ≤ 5 := by omega
          have hN0 : (0 : Int) ≤ (N : Int) := by omega
          have hd0 : N ≠ 0 → xp.length < 12 := fun _ => by omega
          as_aux_lemma =>
          go_wp2_with (first
            | (refine wp_appL rfl _ _ rfl _ RL (R.map PEnt.val) rfl (own_kept (show wr.ownsRow 0 22 1 _ RL (R.map PEnt.val) from HRL.out ▸ hI.out.1.row.own) (frA wr _) (by simp)) wr.heap.size 1 (.slice xa xn xc) rfl (lit_cell _ _) rfl (by omega) ?_; intro g1 cap1 w4 o4 f4 at4 lt4; have p4 := step_row (x := ⟨xa, xn, xc, xl, xp⟩) hI.out.1 HLen.out.symm (by rw [HRL.out]; exact o4) f4 at4; rw [HRL.out, HM.out] at p4; have P4 := Lib.hid p4; clear p4 o4 f4 at4 lt4)
            | (go_at_call 18; refine (level_yes _ xa xn xc xl xp (P4.out.ents ⟨xa, xn, xc, xl, xp⟩ (by simp)).lab (P4.out.ents ⟨xa, xn, xc, xl, xp⟩ (by simp)).len (P4.out.ents ⟨xa, xn, xc, xl, xp⟩ (by simp)).bytes (P4.out.ents ⟨xa, xn, xc, xl, xp⟩ (by simp)).plain).mono ?_; rintro e w5 ⟨rfl, f5⟩; have P5 := Lib.hid (P4.out.kept f5); have qx := cell_fr HQ.out (HF1.out.trans P5.out.fr) (by simp); clear f5)
            | (go_at_call 14; refine (pick_any _ px 6 HWx.out (by omega) (by omega)).mono ?_; rw [HKe.out]; rintro e wz ⟨rfl, hwz⟩; have hwz2 := hwz.symm; subst hwz2; clear hwz)
            | (go_at_call 8; refine (kids_fine _ (HL.out.kept (HF1.out.trans P5.out.fr)) xa xn xc xl xp (P5.out.ents _ (by simp)) N hn5 hd0).mono ?_; rintro e w6 ⟨adk, capk, ks, k, rfl, hK⟩)
            | go_in)

          obtain ⟨hkl, hk, hkp, hke, hkr, f6⟩ := hK.out
          obtain ⟨p6, k6, t6⟩ := push_kids P5.out hkl hke hkr f6
          have P6 := Lib.hid p6
          have K6 := Lib.hid k6
          have T6 := Lib.hid t6
          have HKP := Lib.hid hkp
          have HKL := Lib.hid hkl
          have HK := Lib.hid hk
          clear P4 p6 k6 t6 hkp hkl hk hke hkr f6 hK P5

          go_loopw [4, 10] (fun s4 s10 wk => ∃ i : Nat, i ≤ N ∧ s10 = .int .i64 ((i : Int) - 1) ∧ Hid (Push w1 wk (.slice (some ⟨g1, 0, none⟩) (RL + 1) cap1) s4 R O' ⟨xa, xn, xc, xl, xp⟩ ks i) ∧ Hid (RowP w1 wk (.slice adk N capk) ks) ∧ Hid (Two s4 (.slice adk N capk))) (fun _ s10 _ => (RowKit.intOf s10 + 1).toNat)
          case atStart => exact ⟨N, Nat.le_refl _, by first | rfl | (congr 1; omega), P6, K6, T6⟩
          case round =>
            obtain ⟨i, hi, rfl, pk, kk, tk⟩ := hrel
            clear P6 K6 T6
            obtain ⟨ads, caps, rfl, hcs, _⟩ := pk.out.open_.shape
            cases i with
            | zero =>
              have hT := pk.out.done hI.out.1.tour hn5 HK.out HKP.out
              have hlen2 : (O' ++ (ks.drop 0).reverse).length ≤ 1 + 5 * (RL + 1) := by
                rw [List.length_append, List.length_reverse, List.drop_zero, HKL.out, HM.out]
                have := HLen.out
                omega
              have HT := Lib.hid (show Inv w1 _ _ _ (R ++ [⟨xa, xn, xc, xl, xp⟩]) (O' ++ ks.reverse) from ⟨hT, by rw [List.length_append, HRL.out]; simp; omega, by rw [show (R ++ [(⟨xa, xn, xc, xl, xp⟩ : PEnt)]).length = RL + 1 by simp [HRL.out]]; simpa using hlen2⟩)
              clear hT
              go_wp2
              exact ⟨⟨R ++ [⟨xa, xn, xc, xl, xp⟩], O' ++ ks.reverse, j + 1, by go_num, by omega, HT⟩, by rw [sLen_slice, sLen_slice]; omega⟩
            | succ i =>
              have hil : i < ks.length := by rw [HKL.out]; omega
              obtain ⟨adk', capk', ek, hck, hkc⟩ := kk.out.shape
              rw [HKL.out] at ek hck
              cases ek
              rcases hkc with ⟨_, e0⟩ | ⟨gk, rfl, _, hkcell⟩
              · rw [e0] at hil; simp at hil
              obtain ⟨ey, hey⟩ : ∃ ey, ks[i]? = some ey := ⟨_, List.getElem?_eq_getElem hil⟩
              have hqe := hkcell i ey hey
              obtain ⟨ea, en, ec, el, ep⟩ := ey
              have hqe' : wr.cell? ⟨gk, i, none⟩ = some (.slice ea en ec) := hqe
              have HEI := Lib.hid hey
              clear hkcell hqe hey hil
              have e1 : ((i + 1 : Nat) : Int) - 1 = (i : Int) := by omega
              rw [e1]
              have hi0 : (0 : Int) ≤ (i : Int) := by omega
              have hiN : (i : Int) < (N : Int) := by omega
              obtain ⟨mo, hmo⟩ : ∃ mo, (O' ++ (ks.drop (i + 1)).reverse).length = mo := ⟨_, rfl⟩
              have hmo2 : mo ≤ 3000 := by
                rw [← hmo, List.length_append, List.length_reverse, List.length_drop, HKL.out, HM.out]
                omega
              have HMO := Lib.hid hmo
              rw [hmo] at hcs pk tk ⊢
              clear hmo
              go_wp2_with (first
                | (refine wp_appL rfl _ _ rfl _ mo ((O' ++ (ks.drop (i + 1)).reverse).map PEnt.val) rfl (own_kept (HMO.out ▸ pk.out.open_.own) (frA _ _) (by simp)) wr.heap.size 1 (.slice ea en ec) rfl (lit_cell _ _) rfl (by omega) ?_; intro g5 cap5 w7 o7 f7 at7 lt7)
                | go_in)
              obtain ⟨q1, q2, q3⟩ := push_one (e := ⟨ea, en, ec, el, ep⟩) pk.out kk.out tk.out HEI.out HMO.out o7 f7 at7
              exact ⟨⟨i, by omega, rfl, q1, q2, q3⟩, by simp [RowKit.intOf]⟩
        · have hlev' : ¬ (xp.length : Int) < 12 := by omega
          have hn5 : 0 ≤ 5 := by omega
          have hd0 : 0 ≠ 0 → xp.length < 12 := fun h => absurd rfl h
          as_aux_lemma =>
          go_wp2_with (first
            | (refine wp_appL rfl _ _ rfl _ RL (R.map PEnt.val) rfl (own_kept (show wr.ownsRow 0 22 1 _ RL (R.map PEnt.val) from HRL.out ▸ hI.out.1.row.own) (frA wr _) (by simp)) wr.heap.size 1 (.slice xa xn xc) rfl (lit_cell _ _) rfl (by omega) ?_; intro g1 cap1 w4 o4 f4 at4 lt4; have p4 := step_row (x := ⟨xa, xn, xc, xl, xp⟩) hI.out.1 HLen.out.symm (by rw [HRL.out]; exact o4) f4 at4; rw [HRL.out, HM.out] at p4; have P4 := Lib.hid p4; clear p4 o4 f4 at4 lt4)
            | (go_at_call 18; refine (level_yes _ xa xn xc xl xp (P4.out.ents ⟨xa, xn, xc, xl, xp⟩ (by simp)).lab (P4.out.ents ⟨xa, xn, xc, xl, xp⟩ (by simp)).len (P4.out.ents ⟨xa, xn, xc, xl, xp⟩ (by simp)).bytes (P4.out.ents ⟨xa, xn, xc, xl, xp⟩ (by simp)).plain).mono ?_; rintro e w5 ⟨rfl, f5⟩; have P5 := Lib.hid (P4.out.kept f5); clear f5)
            | (go_at_call 8; refine (kids_fine _ (HL.out.kept (HF1.out.trans P5.out.fr)) xa xn xc xl xp (P5.out.ents _ (by simp)) 0 hn5 hd0).mono ?_; rintro e w6 ⟨adk, capk, ks, k, rfl, hK⟩)
            | go_in)

          obtain ⟨hkl, hk, hkp, hke, hkr, f6⟩ := hK.out
          obtain ⟨p6, k6, t6⟩ := push_kids P5.out hkl hke hkr f6
          have P6 := Lib.hid p6
          have K6 := Lib.hid k6
          have T6 := Lib.hid t6
          have HKP := Lib.hid hkp
          have HKL := Lib.hid hkl
          have HK := Lib.hid hk
          clear P4 p6 k6 t6 hkp hkl hk hke hkr f6 hK P5

          go_loopw [4, 10] (fun s4 s10 wk => ∃ i : Nat, i ≤ 0 ∧ s10 = .int .i64 ((i : Int) - 1) ∧ Hid (Push w1 wk (.slice (some ⟨g1, 0, none⟩) (RL + 1) cap1) s4 R O' ⟨xa, xn, xc, xl, xp⟩ ks i) ∧ Hid (RowP w1 wk (.slice adk 0 capk) ks) ∧ Hid (Two s4 (.slice adk 0 capk))) (fun _ s10 _ => (RowKit.intOf s10 + 1).toNat)
          case atStart => exact ⟨0, Nat.le_refl _, by first | rfl | (congr 1; omega), P6, K6, T6⟩
          case round =>
            obtain ⟨i, hi, rfl, pk, kk, tk⟩ := hrel
            clear P6 K6 T6
            obtain ⟨ads, caps, rfl, hcs, _⟩ := pk.out.open_.shape
            cases i with
            | zero =>
              have hT := pk.out.done hI.out.1.tour hn5 HK.out HKP.out
              have hlen2 : (O' ++ (ks.drop 0).reverse).length ≤ 1 + 5 * (RL + 1) := by
                rw [List.length_append, List.length_reverse, List.drop_zero, HKL.out, HM.out]
                have := HLen.out
                omega
              have HT := Lib.hid (show Inv w1 _ _ _ (R ++ [⟨xa, xn, xc, xl, xp⟩]) (O' ++ ks.reverse) from ⟨hT, by rw [List.length_append, HRL.out]; simp; omega, by rw [show (R ++ [(⟨xa, xn, xc, xl, xp⟩ : PEnt)]).length = RL + 1 by simp [HRL.out]]; simpa using hlen2⟩)
              clear hT
              go_wp2
              exact ⟨⟨R ++ [⟨xa, xn, xc, xl, xp⟩], O' ++ ks.reverse, j, rfl, by omega, HT⟩, by rw [sLen_slice, sLen_slice]; omega⟩
            | succ i =>
              exact absurd hi (by omega)
      · have hused' : ¬ (j : Int) < (pn : Int) := by omega
        have hn5 : 0 ≤ 5 := by omega
        have hd0 : 0 ≠ 0 → xp.length < 12 := fun h => absurd rfl h
        as_aux_lemma =>
        go_wp2_with (first
          | (refine wp_appL rfl _ _ rfl _ RL (R.map PEnt.val) rfl (own_kept (show wr.ownsRow 0 22 1 _ RL (R.map PEnt.val) from HRL.out ▸ hI.out.1.row.own) (frA wr _) (by simp)) wr.heap.size 1 (.slice xa xn xc) rfl (lit_cell _ _) rfl (by omega) ?_; intro g1 cap1 w4 o4 f4 at4 lt4; have p4 := step_row (x := ⟨xa, xn, xc, xl, xp⟩) hI.out.1 HLen.out.symm (by rw [HRL.out]; exact o4) f4 at4; rw [HRL.out, HM.out] at p4; have P4 := Lib.hid p4; clear p4 o4 f4 at4 lt4)
          | (go_at_call 8; refine (kids_fine _ (HL.out.kept (HF1.out.trans P4.out.fr)) xa xn xc xl xp (P4.out.ents _ (by simp)) 0 hn5 hd0).mono ?_; rintro e w6 ⟨adk, capk, ks, k, rfl, hK⟩)
          | go_in)

        obtain ⟨hkl, hk, hkp, hke, hkr, f6⟩ := hK.out
        obtain ⟨p6, k6, t6⟩ := push_kids P4.out hkl hke hkr f6
        have P6 := Lib.hid p6
        have K6 := Lib.hid k6
        have T6 := Lib.hid t6
        have HKP := Lib.hid hkp
        have HKL := Lib.hid hkl
        have HK := Lib.hid hk
        clear p6 k6 t6 hkp hkl hk hke hkr f6 hK P4

        go_loopw [4, 10] (fun s4 s10 wk => ∃ i : Nat, i ≤ 0 ∧ s10 = .int .i64 ((i : Int) - 1) ∧ Hid (Push w1 wk (.slice (some ⟨g1, 0, none⟩) (RL + 1) cap1) s4 R O' ⟨xa, xn, xc, xl, xp⟩ ks i) ∧ Hid (RowP w1 wk (.slice adk 0 capk) ks) ∧ Hid (Two s4 (.slice adk 0 capk))) (fun _ s10 _ => (RowKit.intOf s10 + 1).toNat)
        case atStart => exact ⟨0, Nat.le_refl _, by first | rfl | (congr 1; omega), P6, K6, T6⟩
        case round =>
          obtain ⟨i, hi, rfl, pk, kk, tk⟩ := hrel
          clear P6 K6 T6
          obtain ⟨ads, caps, rfl, hcs, _⟩ := pk.out.open_.shape
          cases i with
          | zero =>
            have hT := pk.out.done hI.out.1.tour hn5 HK.out HKP.out
            have hlen2 : (O' ++ (ks.drop 0).reverse).length ≤ 1 + 5 * (RL + 1) := by
              rw [List.length_append, List.length_reverse, List.drop_zero, HKL.out, HM.out]
              have := HLen.out
              omega
            have HT := Lib.hid (show Inv w1 _ _ _ (R ++ [⟨xa, xn, xc, xl, xp⟩]) (O' ++ ks.reverse) from ⟨hT, by rw [List.length_append, HRL.out]; simp; omega, by rw [show (R ++ [(⟨xa, xn, xc, xl, xp⟩ : PEnt)]).length = RL + 1 by simp [HRL.out]]; simpa using hlen2⟩)
            clear hT
            go_wp2
            exact ⟨⟨R ++ [⟨xa, xn, xc, xl, xp⟩], O' ++ ks.reverse, j, rfl, by omega, HT⟩, by rw [sLen_slice, sLen_slice]; omega⟩
          | succ i =>
            exact absurd hi (by omega)
end Go.Proofs.YtddcilmeignlmaaDoor
