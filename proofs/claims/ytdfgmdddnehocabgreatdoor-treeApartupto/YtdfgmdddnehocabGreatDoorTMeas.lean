/-
  measure: whether all nodes are in order and fit, and how deep they are.
-/
import Derived.Test.YtdfgmdddnehocabGreatDoorTFitM
import Derived.Test.YtdfgmdddnehocabGreatDoorTOwn
import Derived.StringKeys
namespace Go.Proofs.YtdfgmdddnehocabGreatDoor
open Go.RowKit Go.Maps Go.Lib

theorem keyS : Keyed Tryz.prog 9 := string_keyed Tryz.underlying9
theorem zero3 (w : World) : (zeroValue 3).run Tryz.prog w = .ok (.int .i64 0) w := by kernel_rfl
theorem zeroN (w : World) : (zeroValue 62).run Tryz.prog w = .ok (.agg #[.int .u8 0, .string ⟨#[]⟩, .string ⟨#[]⟩, .int .i64 0]) w := by kernel_rfl
theorem infoN : (Tryz.prog.info? 62).map (·.size) = some 4 := by kernel_rfl
def ndC (k : Nat) (n v : ByteArray) (p : Int) : Array Value := #[.int .u8 (k : Int), .string n, .string v, .int .i64 p]
theorem ndC_one (k : Nat) (n v : ByteArray) (p : Int) : (ndC k n v p).all (·.oneCell') = true := by simp [ndC, Value.oneCell']
def deepR (t : List Nd) : Nat := if goodB t t.length = true then deepest t t.length else 0
theorem ownsMap_kept {H : Type} {P : Program} {w w' : World} {k : TypeId} {R : Value → Option (DataW H × List MemPlace)} {b n : Nat} {D : DataW H} {L : List Nat} (h : w.ownsMap P k R b n D) (f : Fr L w w') (hb : b ∉ L) : w'.ownsMap P k R b n D := by
  obtain ⟨es, clock, he, r⟩ := h
  exact ⟨es, clock, f.same hb he, r⟩
theorem good_no {t : List Nd} {i : Nat} (hi : i < t.length) (h : ¬ (Ord t i ∧ Fit t i)) : goodB t t.length = false := by
  cases hg : goodB t t.length with
  | false => rfl
  | true => exact absurd ((goodB_iff t _).1 hg i hi) h
theorem deepR_no {t : List Nd} (h : goodB t t.length = false) : deepR t = 0 := by unfold deepR; rw [h]; rfl
theorem ownsMap_more {H : Type} {P : Program} {w : World} {k : TypeId} {R : Value → Option (DataW H × List MemPlace)} {b n : Nat} {D : DataW H} (h : w.ownsMap P k R b n D) : w.ownsMap P k R b (n + 1) D := by
  obtain ⟨es, clock, he, r1, r2, r3⟩ := h
  exact ⟨es, clock, he, r1, Nat.le_succ_of_le r2, r3⟩
/-- The map that the call made, as far as it came. -/
abbrev OwnAt (w : World) (B : Nat) (t : List Nd) (i : Nat) : Prop := w.ownsMap Tryz.prog 9 (plainElem Tryz.prog 3) B i (ownD t i)

set_option maxHeartbeats 16000000 in
set_option maxRecDepth 100000 in
theorem measure_some (w : World) (L : LaidT w) (hK : Looks w) (b off c : Nat) (t : List Nd) (hN : NodesIn w b off t) (hl : t.length ≤ 16384) (hS : Sane t) :
    Calls Tryz.prog 61 #[.slice (some ⟨b, off, none⟩) t.length c] w fun e w' => e = .returned (.tuple #[.int .i64 (deepR t : Nat), .bool (goodB t t.length)]) ∧ Fr [] w w' := by
  have HL := Hid.mk L
  have HK := Hid.mk hK
  have HNd := Hid.mk hN
  have HS := Hid.mk hS
  obtain ⟨R1, HR1⟩ : ∃ R, Hid (deepR t = R) := ⟨_, rfl⟩
  obtain ⟨R2, HR2⟩ : ∃ R, Hid (goodB t t.length = R) := ⟨_, rfl⟩
  rw [HR1.out, HR2.out]
  have hmm := @run_makeMap Tryz.prog
  clear L hK hN hS
  go_enter Tryz.func61, Tryz.ntmps61
  go_wp2
  have hm0 : OwnAt (w.alloc (.map #[] 0)) w.heap.size t 0 := World.ownsMap_made _ _ _ _
  have fm0 : Fr [] w (w.alloc (.map #[] 0)) := (Fr.refl _ _).alloc _
  have hMB : w.heap.size ≤ w.heap.size := Nat.le_refl _
  generalize w.alloc (.map #[] 0) = wm at hm0 fm0 ⊢
  revert hMB hm0
  generalize hMdef : w.heap.size = MB
  have HMdef := Hid.mk hMdef
  clear hMdef hmm
  intro _ hm0
  go_loopw [2, 4, 15] (fun s2 s4 s15 wr => ∃ (M D i : Nat), s2 = .int .i64 (M : Int) ∧ s4 = .int .i64 (D : Int) ∧ s15 = .int .i64 (i : Int) ∧ i ≤ t.length ∧ M ≤ i ∧ D ≤ i ∧ Hid (Upto t i) ∧ Hid (deepest t i = M) ∧ Hid (depI t ((i : Int) - 1) = D) ∧ Hid (OwnAt wr MB t i) ∧ Hid (Fr [] w wr)) (fun _ _ s15 _ => t.length - (RowKit.intOf s15).toNat)
  case atStart => exact ⟨0, 0, 0, rfl, rfl, rfl, Nat.zero_le _, Nat.le_refl _, Nat.le_refl _, fun i hi => absurd hi (Nat.not_lt_zero _), rfl, depI_neg _ _ (by decide), hm0, fm0⟩
  case round =>
    obtain ⟨M, D, i, rfl, rfl, rfl, hil, hMi, hDi, hU, hM, hD, hOwn, frh⟩ := hrel
    by_cases hlt : i < t.length
    · have hlt' : (i : Int) < (t.length : Int) := by omega
      have hi0 : (0 : Int) ≤ (i : Int) := by omega
      obtain ⟨c0, c1, c2, c3⟩ := (HNd.out.kept frh.out (by simp)) i hlt
      have hO : Hid (∀ j, j < i → Ord t j) := fun j hj => (hU.out j hj).1
      have hMlt : Hid (MB < wr.heap.size) := hOwn.out.lt
      obtain ⟨K, hK⟩ : ∃ K, knd t i = K := ⟨_, rfl⟩
      obtain ⟨NM, hNM⟩ : ∃ x, nam t i = x := ⟨_, rfl⟩
      obtain ⟨VL, hVL⟩ : ∃ x, vlu t i = x := ⟨_, rfl⟩
      obtain ⟨p, hp⟩ : ∃ x, par t i = x := ⟨_, rfl⟩
      rw [hK] at c0
      rw [hNM] at c1
      rw [hVL] at c2
      rw [hp] at c3
      have HKi := Hid.mk hK
      have HNi := Hid.mk hNM
      have Hpi := Hid.mk hp
      clear hK hNM hVL hp
      by_cases ho : Ord t i
      · have HOB : Hid (ordB t i = true) := ordB_yes ho
        have HOo := Hid.mk ho
        clear ho
        by_cases hf : FitP t i
        · have HFB : Hid (fitsS t i = true) := (fitsS_iff HOo.out).2 hf
          have HFP := Hid.mk hf
          clear hf
          by_cases k2 : K = 2
          · subst k2
            have hFit : Hid (Fit t i) := fit_of hU.out HFP.out (fun e => by rw [HKi.out] at e; cases e)
            go_wp2_with (first
              | (refine wp_alloc 62 rfl rfl _ zeroN _ rfl ?_; intro wa ga hga hca fa)
              | (refine wp_storeC 62 rfl _ _ rfl ga _ (ndC 2 NM VL p) rfl rfl hca infoN rfl (ndC_one _ _ _ _) ?_; intro wb hcb fb; have frb : Hid (Fr [] w wb) := (frh.out.trans fa).then fb (fun j hj hm => (by simp at hm; have := frh.out.size; omega)); have owb : Hid (OwnAt wb MB t i) := ownsMap_kept (ownsMap_kept hOwn.out fa (by simp)) fb (by simp; have := hMlt.out; omega); clear hca fa fb)
              | (go_at_call 54; refine (rise_any _ b off c t (HNd.out.kept frb.out (by simp)) i hlt hl hO.out).mono ?_; rintro e w5 ⟨left, he, hLeft, f5⟩; rw [HOB.out] at he; subst he; have frc := frb.out.trans f5; have owc := ownsMap_kept owb.out f5 (by simp); have hcc := hcb.kept f5 (by simp); have hLe := hLeft HOo.out; rw [hD.out, Hpi.out] at hLe; have hll : left ≤ D := (by omega); obtain ⟨E, HE⟩ : ∃ E, Hid (depI t p = E) := ⟨_, rfl⟩; rw [HE.out] at hLe; clear hLeft)
              | (go_at_call 88; refine (fits_any _ (HL.out.kept frc) (HK.out.kept frc) b off c t (HNd.out.kept frc (by simp)) i hlt hl HS.out HOo.out).mono ?_; rw [HFB.out]; rintro e w6 ⟨rfl, f6⟩; have frd := frc.trans f6; have owd := ownsMap_kept owc f6 (by simp); have hcd := hcc.kept f6 (by simp); have n0 : w6.cell? ⟨ga, 0, none⟩ = some (.int .u8 ((2 : Nat) : Int)) := hcd.cell 0; have n1 : w6.cell? ⟨ga, 1, none⟩ = some (.string NM) := hcd.cell 1; have n3 : w6.cell? ⟨ga, 3, none⟩ = some (.int .i64 p) := hcd.cell 3)
              | go_in)
            exact ⟨⟨max M (1 + E), 1 + E, i + 1, by congr 1; omega, by congr 1; omega, by go_num, by omega, by omega, by omega, hU.out.succ HOo.out hFit.out, (by show deepest t (i + 1) = _; unfold deepest; rw [HKi.out, if_pos rfl, hM.out, dep_eq HOo.out, HKi.out, Hpi.out, HE.out, if_pos rfl]), (by show depI t (((i + 1 : Nat) : Int) - 1) = _; rw [show ((i + 1 : Nat) : Int) - 1 = (i : Int) by omega, depI_nat, dep_eq HOo.out, HKi.out, Hpi.out, HE.out, if_pos rfl]), (by show OwnAt _ MB t (i + 1); unfold OwnAt ownD; rw [HKi.out, if_neg (by decide)]; exact ownsMap_more owd), frd⟩, by simp [RowKit.intOf]; omega⟩
          · have k2b : ((K : Int) == 2) = false := by rw [beq_eq_false_iff_ne]; omega
            by_cases k3 : K = 3
            · subst k3
              have hkey : keyOf Tryz.prog 9 (.string NM) = some (keyL NM) := WideMaps.keyOf_string_mk Tryz.underlying9 (by have := (HS.out i hlt).2.2.1; rw [HNi.out] at this; unfold maxLen; omega)
              have hsay := ownD_says t NM i
              cases hlo : lastOwn t i NM with
              | none =>
                rw [hlo] at hsay
                have hFit : Hid (Fit t i) := fit_of hU.out HFP.out (fun _ => by rw [HNi.out, hlo]; exact fun e => nomatch e)
                have HSay := Hid.mk hsay
                clear hsay hlo
                have HPb : Hid (-9223372036854775808 ≤ p ∧ p ≤ 9223372036854775807) := by have := (HS.out i hlt).2.1; rw [Hpi.out] at this; exact this
                go_wp2_with (first
                  | (refine wp_alloc 62 rfl rfl _ zeroN _ rfl ?_; intro wa ga hga hca fa)
                  | (refine wp_storeC 62 rfl _ _ rfl ga _ (ndC 3 NM VL p) rfl rfl hca infoN rfl (ndC_one _ _ _ _) ?_; intro wb hcb fb; have frb : Hid (Fr [] w wb) := (frh.out.trans fa).then fb (fun j hj hm => (by simp at hm; have := frh.out.size; omega)); have owb : Hid (OwnAt wb MB t i) := ownsMap_kept (ownsMap_kept hOwn.out fa (by simp)) fb (by simp; have := hMlt.out; omega); clear hca fa fb)
                  | (go_at_call 54; refine (rise_any _ b off c t (HNd.out.kept frb.out (by simp)) i hlt hl hO.out).mono ?_; rintro e w5 ⟨left, he, hLeft, f5⟩; rw [HOB.out] at he; subst he; have frc := frb.out.trans f5; have owc := ownsMap_kept owb.out f5 (by simp); have hcc := hcb.kept f5 (by simp); have hLe := hLeft HOo.out; rw [hD.out, Hpi.out] at hLe; have hll : left ≤ D := (by omega); obtain ⟨E, HE⟩ : ∃ E, Hid (depI t p = E) := ⟨_, rfl⟩; rw [HE.out] at hLe; clear hLeft)
                  | (go_at_call 88; refine (fits_any _ (HL.out.kept frc) (HK.out.kept frc) b off c t (HNd.out.kept frc (by simp)) i hlt hl HS.out HOo.out).mono ?_; rw [HFB.out]; rintro e w6 ⟨rfl, f6⟩; have frd := frc.trans f6; have owd := ownsMap_kept owc f6 (by simp); have hcd := hcc.kept f6 (by simp); have n0 : w6.cell? ⟨ga, 0, none⟩ = some (.int .u8 ((3 : Nat) : Int)) := hcd.cell 0; have n1 : w6.cell? ⟨ga, 1, none⟩ = some (.string NM) := hcd.cell 1; have n3 : w6.cell? ⟨ga, 3, none⟩ = some (.int .i64 p) := hcd.cell 3)
                  | (at_lookup; refine wpList_lookup_own_ok_int _ rfl _ _ 177 rfl 9 3 .i64 keyS Tryz.underlying177 Tryz.underlying3 (zero3 _) MB i (ownD t i) rfl owd _ _ rfl hkey ?_; intro cc hat hwc; rw [HSay.out.2] at hat; have hcc0 : cc = 0 := (by simpa using hat.symm); subst hcc0; rw [HSay.out.1]; simp only [Option.isSome])
                  | (at_mapUpdate; refine wpList_mapUpdate_own _ rfl _ _ _ 177 rfl 9 3 keyS Tryz.underlying177 _ MB i _ rfl owd (by unfold maxLen; omega) _ _ _ rfl rfl hkey _ [] (plainElem_int Tryz.underlying3 (WalkArith.wf_i64 HPb.out)) ?_; intro w7 owe hgr)
                  | go_in)
                exact ⟨⟨M, E, i + 1, by rfl, by congr 1; omega, by go_num, by omega, by omega, by omega, hU.out.succ HOo.out hFit.out, (by show deepest t (i + 1) = _; unfold deepest; rw [HKi.out, if_neg (by decide)]; exact hM.out), (by show depI t (((i + 1 : Nat) : Int) - 1) = _; rw [show ((i + 1 : Nat) : Int) - 1 = (i : Int) by omega, depI_nat, dep_eq HOo.out, HKi.out, Hpi.out, HE.out, if_neg (by decide), Nat.zero_add]), (by show OwnAt _ MB t (i + 1); unfold OwnAt ownD; rw [HKi.out, if_pos rfl, HNi.out, Hpi.out]; exact owe), (frd.grown hgr (fun j e hj => (by cases e; have := HMdef.out; omega)))⟩, by simp [RowKit.intOf]; omega⟩
              | some pp =>
                rw [hlo] at hsay
                have HSay := Hid.mk hsay
                by_cases hpp : pp = p
                · have hpp' := hpp.symm
                  subst hpp'
                  have hno : goodB t t.length = false := good_no hlt (fun h => by
                    have := (of_fit hU.out HOo.out h.2).2 HKi.out
                    rw [HNi.out, hlo, Hpi.out] at this
                    exact this rfl)
                  clear hsay hlo
                  go_wp2_with (first
                    | (refine wp_alloc 62 rfl rfl _ zeroN _ rfl ?_; intro wa ga hga hca fa)
                    | (refine wp_storeC 62 rfl _ _ rfl ga _ (ndC 3 NM VL p) rfl rfl hca infoN rfl (ndC_one _ _ _ _) ?_; intro wb hcb fb; have frb : Hid (Fr [] w wb) := (frh.out.trans fa).then fb (fun j hj hm => (by simp at hm; have := frh.out.size; omega)); have owb : Hid (OwnAt wb MB t i) := ownsMap_kept (ownsMap_kept hOwn.out fa (by simp)) fb (by simp; have := hMlt.out; omega); clear hca fa fb)
                    | (go_at_call 54; refine (rise_any _ b off c t (HNd.out.kept frb.out (by simp)) i hlt hl hO.out).mono ?_; rintro e w5 ⟨left, he, hLeft, f5⟩; rw [HOB.out] at he; subst he; have frc := frb.out.trans f5; have owc := ownsMap_kept owb.out f5 (by simp); have hcc := hcb.kept f5 (by simp); have hLe := hLeft HOo.out; rw [hD.out, Hpi.out] at hLe; have hll : left ≤ D := (by omega); obtain ⟨E, HE⟩ : ∃ E, Hid (depI t p = E) := ⟨_, rfl⟩; rw [HE.out] at hLe; clear hLeft)
                    | (go_at_call 88; refine (fits_any _ (HL.out.kept frc) (HK.out.kept frc) b off c t (HNd.out.kept frc (by simp)) i hlt hl HS.out HOo.out).mono ?_; rw [HFB.out]; rintro e w6 ⟨rfl, f6⟩; have frd := frc.trans f6; have owd := ownsMap_kept owc f6 (by simp); have hcd := hcc.kept f6 (by simp); have n0 : w6.cell? ⟨ga, 0, none⟩ = some (.int .u8 ((3 : Nat) : Int)) := hcd.cell 0; have n1 : w6.cell? ⟨ga, 1, none⟩ = some (.string NM) := hcd.cell 1; have n3 : w6.cell? ⟨ga, 3, none⟩ = some (.int .i64 p) := hcd.cell 3)
                    | (at_lookup; refine wpList_lookup_own_ok_int _ rfl _ _ 177 rfl 9 3 .i64 keyS Tryz.underlying177 Tryz.underlying3 (zero3 _) MB i (ownD t i) rfl owd _ _ rfl hkey ?_; intro cc hat hwc; rw [HSay.out.2] at hat; have hcc0 : cc = p := (by simpa using hat.symm); subst hcc0; rw [HSay.out.1]; simp only [Option.isSome])
                    | go_in)
                  have e1 : 0 = R1 := by rw [← HR1.out, deepR_no hno]
                  have e2 : false = R2 := by rw [← HR2.out, hno]
                  subst e1
                  subst e2
                  go_ret2
                  exact ⟨rfl, frd⟩
                · have hFit : Hid (Fit t i) := fit_of hU.out HFP.out (fun _ => by rw [HNi.out, hlo, Hpi.out]; exact fun e => hpp (Option.some.inj e))
                  have hppb : (pp == p) = false := by rw [beq_eq_false_iff_ne]; exact hpp
                  clear hsay hlo
                  have HPb : Hid (-9223372036854775808 ≤ p ∧ p ≤ 9223372036854775807) := by have := (HS.out i hlt).2.1; rw [Hpi.out] at this; exact this
                  go_wp2_with (first
                    | (refine wp_alloc 62 rfl rfl _ zeroN _ rfl ?_; intro wa ga hga hca fa)
                    | (refine wp_storeC 62 rfl _ _ rfl ga _ (ndC 3 NM VL p) rfl rfl hca infoN rfl (ndC_one _ _ _ _) ?_; intro wb hcb fb; have frb : Hid (Fr [] w wb) := (frh.out.trans fa).then fb (fun j hj hm => (by simp at hm; have := frh.out.size; omega)); have owb : Hid (OwnAt wb MB t i) := ownsMap_kept (ownsMap_kept hOwn.out fa (by simp)) fb (by simp; have := hMlt.out; omega); clear hca fa fb)
                    | (go_at_call 54; refine (rise_any _ b off c t (HNd.out.kept frb.out (by simp)) i hlt hl hO.out).mono ?_; rintro e w5 ⟨left, he, hLeft, f5⟩; rw [HOB.out] at he; subst he; have frc := frb.out.trans f5; have owc := ownsMap_kept owb.out f5 (by simp); have hcc := hcb.kept f5 (by simp); have hLe := hLeft HOo.out; rw [hD.out, Hpi.out] at hLe; have hll : left ≤ D := (by omega); obtain ⟨E, HE⟩ : ∃ E, Hid (depI t p = E) := ⟨_, rfl⟩; rw [HE.out] at hLe; clear hLeft)
                    | (go_at_call 88; refine (fits_any _ (HL.out.kept frc) (HK.out.kept frc) b off c t (HNd.out.kept frc (by simp)) i hlt hl HS.out HOo.out).mono ?_; rw [HFB.out]; rintro e w6 ⟨rfl, f6⟩; have frd := frc.trans f6; have owd := ownsMap_kept owc f6 (by simp); have hcd := hcc.kept f6 (by simp); have n0 : w6.cell? ⟨ga, 0, none⟩ = some (.int .u8 ((3 : Nat) : Int)) := hcd.cell 0; have n1 : w6.cell? ⟨ga, 1, none⟩ = some (.string NM) := hcd.cell 1; have n3 : w6.cell? ⟨ga, 3, none⟩ = some (.int .i64 p) := hcd.cell 3)
                    | (at_lookup; refine wpList_lookup_own_ok_int _ rfl _ _ 177 rfl 9 3 .i64 keyS Tryz.underlying177 Tryz.underlying3 (zero3 _) MB i (ownD t i) rfl owd _ _ rfl hkey ?_; intro cc hat hwc; rw [HSay.out.2] at hat; have hcc0 : cc = pp := (by simpa using hat.symm); subst hcc0; rw [HSay.out.1]; simp only [Option.isSome])
                    | (at_mapUpdate; refine wpList_mapUpdate_own _ rfl _ _ _ 177 rfl 9 3 keyS Tryz.underlying177 _ MB i _ rfl owd (by unfold maxLen; omega) _ _ _ rfl rfl hkey _ [] (plainElem_int Tryz.underlying3 (WalkArith.wf_i64 HPb.out)) ?_; intro w7 owe hgr)
                    | go_in)
                  exact ⟨⟨M, E, i + 1, by rfl, by congr 1; omega, by go_num, by omega, by omega, by omega, hU.out.succ HOo.out hFit.out, (by show deepest t (i + 1) = _; unfold deepest; rw [HKi.out, if_neg (by decide)]; exact hM.out), (by show depI t (((i + 1 : Nat) : Int) - 1) = _; rw [show ((i + 1 : Nat) : Int) - 1 = (i : Int) by omega, depI_nat, dep_eq HOo.out, HKi.out, Hpi.out, HE.out, if_neg (by decide), Nat.zero_add]), (by show OwnAt _ MB t (i + 1); unfold OwnAt ownD; rw [HKi.out, if_pos rfl, HNi.out, Hpi.out]; exact owe), (frd.grown hgr (fun j e hj => (by cases e; have := HMdef.out; omega)))⟩, by simp [RowKit.intOf]; omega⟩
            · have k3b : ((K : Int) == 3) = false := by rw [beq_eq_false_iff_ne]; omega
              have hFit : Hid (Fit t i) := fit_of hU.out HFP.out (fun e => by rw [HKi.out] at e; exact absurd e k3)
              go_wp2_with (first
                | (refine wp_alloc 62 rfl rfl _ zeroN _ rfl ?_; intro wa ga hga hca fa)
                | (refine wp_storeC 62 rfl _ _ rfl ga _ (ndC K NM VL p) rfl rfl hca infoN rfl (ndC_one _ _ _ _) ?_; intro wb hcb fb; have frb : Hid (Fr [] w wb) := (frh.out.trans fa).then fb (fun j hj hm => (by simp at hm; have := frh.out.size; omega)); have owb : Hid (OwnAt wb MB t i) := ownsMap_kept (ownsMap_kept hOwn.out fa (by simp)) fb (by simp; have := hMlt.out; omega); clear hca fa fb)
                | (go_at_call 54; refine (rise_any _ b off c t (HNd.out.kept frb.out (by simp)) i hlt hl hO.out).mono ?_; rintro e w5 ⟨left, he, hLeft, f5⟩; rw [HOB.out] at he; subst he; have frc := frb.out.trans f5; have owc := ownsMap_kept owb.out f5 (by simp); have hcc := hcb.kept f5 (by simp); have hLe := hLeft HOo.out; rw [hD.out, Hpi.out] at hLe; have hll : left ≤ D := (by omega); obtain ⟨E, HE⟩ : ∃ E, Hid (depI t p = E) := ⟨_, rfl⟩; rw [HE.out] at hLe; clear hLeft)
                | (go_at_call 88; refine (fits_any _ (HL.out.kept frc) (HK.out.kept frc) b off c t (HNd.out.kept frc (by simp)) i hlt hl HS.out HOo.out).mono ?_; rw [HFB.out]; rintro e w6 ⟨rfl, f6⟩; have frd := frc.trans f6; have owd := ownsMap_kept owc f6 (by simp); have hcd := hcc.kept f6 (by simp); have n0 : w6.cell? ⟨ga, 0, none⟩ = some (.int .u8 ((K : Nat) : Int)) := hcd.cell 0; have n1 : w6.cell? ⟨ga, 1, none⟩ = some (.string NM) := hcd.cell 1; have n3 : w6.cell? ⟨ga, 3, none⟩ = some (.int .i64 p) := hcd.cell 3)
                | go_in)
              exact ⟨⟨M, E, i + 1, by rfl, by congr 1; omega, by go_num, by omega, by omega, by omega, hU.out.succ HOo.out hFit.out, (by show deepest t (i + 1) = _; unfold deepest; rw [HKi.out, if_neg k2]; exact hM.out), (by show depI t (((i + 1 : Nat) : Int) - 1) = _; rw [show ((i + 1 : Nat) : Int) - 1 = (i : Int) by omega, depI_nat, dep_eq HOo.out, HKi.out, Hpi.out, HE.out, if_neg k2, Nat.zero_add]), (by show OwnAt _ MB t (i + 1); unfold OwnAt ownD; rw [HKi.out, if_neg k3]; exact ownsMap_more owd), frd⟩, by simp [RowKit.intOf]; omega⟩
        · have HFB : Hid (fitsS t i = false) := by
            cases h : fitsS t i with
            | false => rfl
            | true => exact absurd ((fitsS_iff HOo.out).1 h) hf
          have hno : goodB t t.length = false := good_no hlt (fun h => hf (of_fit hU.out h.1 h.2).1)
          clear hf
          go_wp2_with (first
            | (refine wp_alloc 62 rfl rfl _ zeroN _ rfl ?_; intro wa ga hga hca fa)
            | (refine wp_storeC 62 rfl _ _ rfl ga _ (ndC K NM VL p) rfl rfl hca infoN rfl (ndC_one _ _ _ _) ?_; intro wb hcb fb; have frb : Hid (Fr [] w wb) := (frh.out.trans fa).then fb (fun j hj hm => (by simp at hm; have := frh.out.size; omega)); have owb : Hid (OwnAt wb MB t i) := ownsMap_kept (ownsMap_kept hOwn.out fa (by simp)) fb (by simp; have := hMlt.out; omega); clear hca fa fb)
            | (go_at_call 54; refine (rise_any _ b off c t (HNd.out.kept frb.out (by simp)) i hlt hl hO.out).mono ?_; rintro e w5 ⟨left, he, hLeft, f5⟩; rw [HOB.out] at he; subst he; have frc := frb.out.trans f5; have owc := ownsMap_kept owb.out f5 (by simp); have hcc := hcb.kept f5 (by simp))
            | (go_at_call 88; refine (fits_any _ (HL.out.kept frc) (HK.out.kept frc) b off c t (HNd.out.kept frc (by simp)) i hlt hl HS.out HOo.out).mono ?_; rw [HFB.out]; rintro e w6 ⟨rfl, f6⟩; have frd := frc.trans f6; have owd := ownsMap_kept owc f6 (by simp); have hcd := hcc.kept f6 (by simp); have n0 : w6.cell? ⟨ga, 0, none⟩ = some (.int .u8 ((K : Nat) : Int)) := hcd.cell 0; have n1 : w6.cell? ⟨ga, 1, none⟩ = some (.string NM) := hcd.cell 1; have n3 : w6.cell? ⟨ga, 3, none⟩ = some (.int .i64 p) := hcd.cell 3)
            | go_in)
          have e1 : 0 = R1 := by rw [← HR1.out, deepR_no hno]
          have e2 : false = R2 := by rw [← HR2.out, hno]
          subst e1
          subst e2
          go_ret2
          exact ⟨rfl, frd⟩
      · have HOB : Hid (ordB t i = false) := ordB_no ho
        have hno : goodB t t.length = false := good_no hlt (fun h => ho h.1)
        clear ho
        go_wp2_with (first
          | (refine wp_alloc 62 rfl rfl _ zeroN _ rfl ?_; intro wa ga hga hca fa)
          | (refine wp_storeC 62 rfl _ _ rfl ga _ (ndC K NM VL p) rfl rfl hca infoN rfl (ndC_one _ _ _ _) ?_; intro wb hcb fb; have frb : Hid (Fr [] w wb) := (frh.out.trans fa).then fb (fun j hj hm => (by simp at hm; have := frh.out.size; omega)); have owb : Hid (OwnAt wb MB t i) := ownsMap_kept (ownsMap_kept hOwn.out fa (by simp)) fb (by simp; have := hMlt.out; omega); clear hca fa fb)
          | (go_at_call 54; refine (rise_any _ b off c t (HNd.out.kept frb.out (by simp)) i hlt hl hO.out).mono ?_; rintro e w5 ⟨left, he, hLeft, f5⟩; rw [HOB.out] at he; subst he; have frc := frb.out.trans f5; have owc := ownsMap_kept owb.out f5 (by simp); have hcc := hcb.kept f5 (by simp))
          | go_in)
        have e1 : 0 = R1 := by rw [← HR1.out, deepR_no hno]
        have e2 : false = R2 := by rw [← HR2.out, hno]
        subst e1
        subst e2
        go_ret2
        exact ⟨rfl, frc⟩
    · obtain rfl : i = t.length := by omega
      have hg : goodB t t.length = true := (goodB_iff t _).2 hU.out
      have e1 : M = R1 := by rw [← HR1.out]; unfold deepR; rw [if_pos hg]; exact hM.out.symm
      have e2 : true = R2 := by rw [← HR2.out]; exact hg.symm
      subst e1
      subst e2
      go_wp2
      go_ret2
      exact ⟨rfl, frh.out⟩
end Go.Proofs.YtdfgmdddnehocabGreatDoor
