/-
  TreeCuts, whatever is handed in.
-/
import Derived.Test.YtdfgmdddnehocabDoorTCuts1
namespace Go.Proofs.YtdfgmdddnehocabDoor
open Go.RowKit Go.Maps Go.Lib

set_option maxHeartbeats 20000000 in
set_option maxRecDepth 100000 in
theorem cuts_el (w : World) (L : LaidW w) (b off c : Nat) (t : List Nd) (hI : NodesIn w b off t) (hc : t.length ≤ c) (hS : Sane t) (x : Int) (hx : (Lit.int .i64 x).wf = true) (h : t.length ≤ 300) (h0 : 0 < t.length) (hJ : judged t (oneB t) = 0) (k : Nat) (hk : x % (t.length : Int) = (k : Int)) (hkl : k < t.length) (hz : 0 < k) (hK : knd t k = 2) :
    Calls Tryd.prog 3 #[.slice (some ⟨b, off, none⟩) t.length c, .int .i64 x] w fun e w' => e = .returned (.bool true) ∧ Fr [] w w' := by
  obtain ⟨hok, hone⟩ := judged_ok hJ
  have G := ok_good hok
  obtain ⟨hl5, hd5⟩ := judged_deep hJ
  have E := endOf_is (t := t) (k := (k : Int)) (by omega) (by omega)
  have hEg := E.gt
  have hEl := E.le
  obtain ⟨D, hD⟩ : ∃ D, endOf t k - k = D := ⟨_, rfl⟩
  have hD1 : 1 ≤ D := by omega
  have hD3 : D ≤ 300 := by omega
  have h' : ¬ (300 : Int) < (t.length : Int) := by omega
  have h3 : (t.length : Int) ≤ 300 := by omega
  have hkl' : (k : Int) < (t.length : Int) := by omega
  have hk0 : (0 : Int) ≤ (k : Int) := by omega
  have hD1' : (1 : Int) ≤ (D : Int) := by omega
  have hD3' : (D : Int) ≤ 300 := by omega
  have cA := Hid.mk (awake_any w L)
  have cC := Hid.mk (fun w' (f : Fr [] w w') => check_any w' (L.kept f) (some ⟨b, off, none⟩) c t.length t rfl (hI.kept f (by simp)).at hS)
  rw [hJ] at cC
  have cK := Hid.mk (fun w' => pick_any w' x (t.length : Int) hx (by omega) (by omega))
  rw [hk] at cK
  have cP := Hid.mk (fun w' (f : Fr [] w w') => part_at w' (L.kept f) b off c t (hI.kept f (by simp)) hc hS k hkl hok)
  rw [hD] at cP
  have HI := Hid.mk (fun w' (f : Fr [] w w') => (hI.kept f (by simp)) k hkl)
  have hK1 : knd t k ≠ 1 := kind_root G hkl hz
  have hN3 : knd t k ≠ 3 := by omega
  have hfr : judged (partL t k) (noB (partL t k)) = 0 := part_frag G hl5 hd5 hkl hN3 hK1
  have hokp : okT (partL t k) = true := ok_frag hfr
  have hzg : (0 : Int) < (k : Int) := by omega
  have hz' : ¬ (k : Int) = 0 := by omega
  have hcT := Hid.mk (fun w' (f : Fr [] w w') => text_at w' (L.kept f) b off c t (hI.kept f (by simp)) hc hS k hkl hok)
  have hcQ := Hid.mk (fun w' (f : Fr [] w w') g cap (hN : NodesIn w' g 0 (partL t k)) (hcap : D ≤ cap) => text_at w' (L.kept f) g 0 cap (partL t k) hN (by rw [part_len, hD]; exact hcap) (part_sane hS hkl) 0 (by rw [part_len]; omega) hokp)
  rw [part_len, hD, part_text hkl, show ((0 : Nat) : Int) = 0 from rfl] at hcQ
  have hcE := Hid.mk (fun w' (f : Fr [] w w') => End_any w' (L.kept f) (some ⟨b, off, none⟩) c t.length t rfl (hI.kept f (by simp)).at hS k)
  have hh : hasB t k = true := by
    unfold hasB
    rw [hok, decide_eq_true (by omega)]
    rfl
  unfold endS at hcE
  rw [if_pos hh, Int.toNat_natCast] at hcE
  have hcAt := Hid.mk (fun w' (f : Fr [] w w') => Attrs_any w' (L.kept f) (some ⟨b, off, none⟩) t.length c t rfl (hI.kept f (by simp)).at hS k)
  unfold attrsS at hcAt
  rw [if_pos hh, Int.toNat_natCast] at hcAt
  have hcKi := Hid.mk (fun w' (f : Fr [] w w') => Kids_any w' (L.kept f) (some ⟨b, off, none⟩) t.length c t rfl (hI.kept f (by simp)).at hS k)
  unfold kidsS at hcKi
  rw [if_pos hh] at hcKi
  have hbl := below_list G hkl
  obtain ⟨hs1, hs2, hs3⟩ := ch_all G hkl
  have hmem := Hid.mk (fun x (hx : x ∈ chL t k (k + 1)) => ch_mem hkl hx)
  have hlen := ch_len (t := t) (k := k) (y := k + 1)
  have hcM := Hid.mk (fun w' (f : Fr [] w w') m (hm : m < t.length) => part_at w' (L.kept f) b off c t (hI.kept f (by simp)) hc hS m hm hok)
  have hcX := Hid.mk (fun w' (f : Fr [] w w') m (hm : m < t.length) => text_at w' (L.kept f) b off c t (hI.kept f (by simp)) hc hS m hm hok)
  have HJ := Hid.mk (fun w' (f : Fr [] w w') m (hm : m < t.length) => (hI.kept f (by simp)) m hm)
  obtain ⟨EE, hEE⟩ : ∃ EE, endOf t k = EE := ⟨_, rfl⟩
  have hsub : (EE : Int) - (k : Int) = (D : Int) := by omega
  have hEE3 : (EE : Int) ≤ 300 := by omega
  have hEE0 : (0 : Int) ≤ (EE : Int) := by omega
  rw [hEE] at hcE
  have hcl := Hid.mk (cat_len G hkl h)
  obtain ⟨l, hl⟩ : ∃ l, chL t k (k + 1) = l := ⟨_, rfl⟩
  rw [hl] at hbl hs1 hs2 hs3 hmem hlen hcl
  obtain ⟨A1, hA1⟩ : ∃ A1, attrsL k (attrEnds t k) = A1 := ⟨_, rfl⟩
  obtain ⟨K1, hK1e⟩ : ∃ K1, kidsL t k = K1 := ⟨_, rfl⟩
  rw [hA1] at hcAt hbl
  rw [hK1e] at hcKi hbl
  have HBL := Hid.mk hbl
  have hAB := Hid.mk (show A1.length + K1.length ≤ 1000000 from by rw [← List.length_append, hbl]; omega)
  have HS1 := Hid.mk (show 1 + sumT t l = D from by rw [← hD]; exact hs1)
  obtain ⟨LN, hLN⟩ : ∃ LN, l.length = LN := ⟨_, rfl⟩
  have HLN := Hid.mk hLN
  have hll : LN ≤ 300 := by omega
  have hll' : (LN : Int) ≤ 300 := by omega
  obtain ⟨XT, hXT⟩ : ∃ XT, mkS (textN t k) = XT := ⟨_, rfl⟩
  rw [hXT] at hcT hcQ
  have HST := Hid.mk (show mkS (catT t l) = XT from by rw [← hXT]; exact congrArg mkS (hs2 (by omega)))
  have HK := Hid.mk hK
  have pf := Hid.mk (fun w' (f : Fr [] w w') g cap (hN : NodesIn w' g 0 (partL t k)) => frag_any w' (L.kept f) (some ⟨g, 0, none⟩) cap D (partL t k) (by rw [part_len, hD]) hN.at (part_sane hS hkl))
  rw [hfr] at pf
  clear hfr
  clear hLN hok hone G hl5 hd5 E hEg hEl hD hJ hk hx hS hI hc L hh hs1 hs2 hs3 hbl hlen hEE hl hA1 hK1e hXT hokp hz hK hK1 hN3 
  go_enter Tryd.func3, Tryd.ntmps3
  go_wp2_with fail
  refine cA.out.mono ?_
  rintro e w1 ⟨rfl, f1⟩
  go_wp2_with fail
  refine (cC.out _ f1).mono ?_
  rintro e w2 ⟨rfl, f2⟩
  replace f1 := Hid.mk (f1.trans f2)
  clear f2
  go_wp2_with fail
  refine (cK.out _).mono ?_
  rintro e wz ⟨rfl, hwz⟩
  have hwz2 := hwz.symm
  subst hwz2
  clear hwz
  go_wp2_with fail
  refine (cP.out _ f1.out).mono ?_
  rintro e w3 ⟨⟨g, cap, rfl, hP, hcap⟩, f3⟩
  replace f1 := Hid.mk (f1.out.trans f3)
  clear f3
  obtain ⟨c0, c1, c2, c3⟩ := HI.out _ f1.out
  rw [HK.out] at c0
  have HP := Hid.mk hP
  clear c1 c2 c3 hP
  go_wp2_with fail
  refine (hcE.out _ f1.out).mono ?_
  rintro e w4 ⟨rfl, f3⟩
  have HPk := Hid.mk (HP.out.kept f3 (by simp))
  replace f1 := Hid.mk (f1.out.trans f3)
  clear f3 HP
  go_wp2_with fail
  refine (pf.out _ f1.out g cap HPk.out).mono ?_
  rintro e w5 ⟨rfl, f3⟩
  have HPl := Hid.mk (HPk.out.kept f3 (by simp))
  replace f1 := Hid.mk (f1.out.trans f3)
  clear f3 HPk
  go_wp2_with fail
  refine (hcQ.out _ f1.out g cap HPl.out hcap).mono ?_
  rintro e w6 ⟨rfl, f3⟩
  replace f1 := Hid.mk (f1.out.trans f3)
  clear f3 HPl
  go_wp2_with fail
  refine (hcT.out _ f1.out).mono ?_
  rintro e w7 ⟨rfl, f3⟩
  replace f1 := Hid.mk (f1.out.trans f3)
  clear f3
  go_wp2_with fail
  have F7 := f1
  refine (hcAt.out _ f1.out).mono ?_
  rintro e w8 ⟨⟨v8, rfl, i8⟩, f8⟩
  replace f1 := Hid.mk (f1.out.trans f8)
  have I8 := Hid.mk i8
  clear i8
  go_wp2_with fail
  refine (hcKi.out _ f1.out).mono ?_
  rintro e w9 ⟨⟨v9, rfl, i9⟩, f9⟩
  have I9 := Hid.mk i9
  have F9 := Hid.mk (f8.trans f9)
  have f1b := Hid.mk (f1.out.trans f9)
  obtain ⟨a8, p8, rfl, _⟩ := I8.out.shape
  obtain ⟨a9, p9, rfl, _⟩ := I9.out.shape
  have J8 := Hid.mk (I8.out.kept0 f9)
  clear i9 f8 f9 I8
  go_wp2_with (first
    | (refine wp_appIs rfl _ _ rfl _ (.slice a8 A1.length p8) A1 rfl J8.out F9.out _ (.slice a9 K1.length p9) K1 rfl I9.out hAB.out ?_; intro v w10 hO f10 _; rw [HBL.out] at hO; obtain ⟨aL, pL, eL, _⟩ := hO.shape; rw [HLN.out] at eL; subst eL)
    | fail)
  have HO := Hid.mk hO
  have FT := Hid.mk (F7.out.trans f10)
  clear hO f10 f1 f1b F9 I9 J8 c0
  go_loopw [7, 8, 10] (fun s7 s8 s10 wr => ∃ i : Nat, s10 = .int .i64 (i : Int) ∧ i ≤ LN ∧ s7 = .int .i64 ((1 + sumT t (l.take i) : Nat) : Int) ∧ s8 = .string (mkS (catT t (l.take i))) ∧ Hid (Fr [] w wr ∧ Ints w7 wr (.slice aL LN pL) l)) (fun _ _ s10 _ => LN - (RowKit.intOf s10).toNat)
  case atStart => exact ⟨0, rfl, by omega, rfl, rfl, FT.out, HO.out⟩
  case round =>
    obtain ⟨i, rfl, hi, e7, e8, hX⟩ := hrel
    have hi0 : (0 : Int) ≤ (i : Int) := by omega
    have hle0 := sumT_le (t := t) (l := l) i
    obtain ⟨S1, hS1⟩ : ∃ S1, 1 + sumT t (l.take i) = S1 := ⟨_, rfl⟩
    obtain ⟨C0, hC0⟩ : ∃ C0, mkS (catT t (l.take i)) = C0 := ⟨_, rfl⟩
    have hS1b : S1 ≤ 300 := by have := HS1.out; omega
    have hS1' : (S1 : Int) ≤ 300 := by omega
    have hS10 : (0 : Int) ≤ (S1 : Int) := by omega
    rw [hS1] at e7
    rw [hC0] at e8
    subst e7 e8
    by_cases hlt : i < LN
    · have hlt' : (i : Int) < (LN : Int) := by omega
      have hil : i < l.length := by rw [HLN.out]; exact hlt
      obtain ⟨y, hy⟩ : ∃ y, l.getD i 0 = y := ⟨_, rfl⟩
      have hym : y ∈ l := by rw [← hy, List.getD_eq_getElem?_getD, List.getElem?_eq_getElem hil]; exact List.getElem_mem hil
      obtain ⟨m1, m2, m3, m4⟩ := hmem.out y hym
      have hst := sumT_step (t := t) hil
      have hct := catT_step (t := t) hil
      rw [hy] at hst hct
      have hle1 := sumT_le (t := t) (l := l) (i + 1)
      have cPy := Hid.mk (hcM.out _ hX.out.1 y m3)
      obtain ⟨d, hd⟩ : ∃ d, endOf t y - y = d := ⟨_, rfl⟩
      rw [hd] at cPy hst
      have hdb : (d : Int) ≤ 300 := by have := HS1.out; omega
      have hd0 : (0 : Int) ≤ (d : Int) := by omega
      have HS7 := Hid.mk (show ((1 + sumT t (l.take (i + 1)) : Nat) : Int) = (S1 : Int) + (d : Int) from by omega)
      obtain ⟨g5, p5, e5, _, ci⟩ := hX.out.2.at hil
      rw [HLN.out] at e5
      rw [hy] at ci
      cases e5
      have ci2 := Hid.mk (fun w' (f : Fr [] wr w') => (show w'.cell? ⟨g5, i, none⟩ = some (encI y) from by
        obtain ⟨g7, p7, e7, _, c7⟩ := (hX.out.2.kept0 f).at hil
        rw [HLN.out] at e7
        cases e7
        rw [hy] at c7
        exact c7))
      have m3' : (y : Int) < (t.length : Int) := by omega
      have hy0 : (0 : Int) ≤ (y : Int) := by omega
      have HM3 := Hid.mk m3
      clear hst hle0 hle1 hS1b hym m1 m2 m4 hS1 hd
      by_cases k4 : knd t y = 4
      · have HS8 := Hid.mk (show mkS (catT t (l.take (i + 1))) = C0 ++ mkS (textN t y) from by rw [hct, ← mk_app, hC0]; unfold textC; rw [if_pos (Or.inl k4)])
        have hsz : ¬ 9223372036854775807 < C0.size + (mkS (textN t y)).size := by
          rw [← ByteArray.size_append, ← HS8.out, mkS_size]
          have := hcl.out (i + 1)
          omega
        have K4 := Hid.mk k4
        clear k4 hct hC0 hy hil m3
        go_wp2_with fail
        refine cPy.out.mono ?_
        rintro e w11 ⟨⟨g6, p6, rfl, _, _⟩, f11⟩
        have cj := ci2.out _ f11
        obtain ⟨c0, _, _, _⟩ := HJ.out _ (hX.out.1.trans f11) y HM3.out
        rw [K4.out] at c0
        go_wp2_with fail
        refine (hcX.out _ (hX.out.1.trans f11) y HM3.out).mono ?_
        rintro e w12 ⟨rfl, f12⟩
        go_wp2_with fail
        exact ⟨⟨i + 1, by go_num, by omega, by rw [HS7.out], by rw [HS8.out], (hX.out.1.trans f11).trans f12, hX.out.2.kept0 (f11.trans f12)⟩, by simp [RowKit.intOf]; omega⟩
      by_cases k2 : knd t y = 2
      · have HS8 := Hid.mk (show mkS (catT t (l.take (i + 1))) = C0 ++ mkS (textN t y) from by rw [hct, ← mk_app, hC0]; unfold textC; rw [if_pos (Or.inr k2)])
        have hsz : ¬ 9223372036854775807 < C0.size + (mkS (textN t y)).size := by
          rw [← ByteArray.size_append, ← HS8.out, mkS_size]
          have := hcl.out (i + 1)
          omega
        have K4 := Hid.mk k2
        clear k4 k2 hct hC0 hy hil m3
        go_wp2_with fail
        refine cPy.out.mono ?_
        rintro e w11 ⟨⟨g6, p6, rfl, _, _⟩, f11⟩
        have cj := ci2.out _ f11
        obtain ⟨c0, _, _, _⟩ := HJ.out _ (hX.out.1.trans f11) y HM3.out
        rw [K4.out] at c0
        go_wp2_with fail
        refine (hcX.out _ (hX.out.1.trans f11) y HM3.out).mono ?_
        rintro e w12 ⟨rfl, f12⟩
        go_wp2_with fail
        exact ⟨⟨i + 1, by go_num, by omega, by rw [HS7.out], by rw [HS8.out], (hX.out.1.trans f11).trans f12, hX.out.2.kept0 (f11.trans f12)⟩, by simp [RowKit.intOf]; omega⟩
      · have HS8 := Hid.mk (show mkS (catT t (l.take (i + 1))) = C0 from by rw [hct, ← mk_app, hC0]; unfold textC; rw [if_neg (by omega)]; exact ByteArray.append_empty)
        have q4 : (((knd t y : Nat) : Int) == 4) = false := by rw [beq_eq_false_iff_ne]; omega
        have q2 : (((knd t y : Nat) : Int) == 2) = false := by rw [beq_eq_false_iff_ne]; omega
        obtain ⟨Ky, hKy⟩ : ∃ Ky, knd t y = Ky := ⟨_, rfl⟩
        rw [hKy] at q4 q2
        have K4 := Hid.mk hKy
        clear k4 k2 hct hC0 hy hil m3 hKy
        go_wp2_with fail
        refine cPy.out.mono ?_
        rintro e w11 ⟨⟨g6, p6, rfl, _, _⟩, f11⟩
        have cj := ci2.out _ f11
        obtain ⟨c0, _, _, _⟩ := HJ.out _ (hX.out.1.trans f11) y HM3.out
        rw [K4.out] at c0
        go_wp2_with fail
        exact ⟨⟨i + 1, by go_num, by omega, by rw [HS7.out], by rw [HS8.out], hX.out.1.trans f11, hX.out.2.kept0 f11⟩, by simp [RowKit.intOf]; omega⟩
    · obtain rfl : i = LN := by omega
      have hlt' : ¬ (i : Int) < (i : Int) := by omega
      have hall : l.take i = l := List.take_of_length_le (by rw [HLN.out]; exact Nat.le_refl _)
      rw [hall] at hS1 hC0
      rw [HS1.out] at hS1
      subst hS1
      rw [HST.out] at hC0
      subst hC0
      obtain ⟨c0, _, _, _⟩ := HI.out _ hX.out.1
      rw [HK.out] at c0
      clear hall hle0
      go_wp2_with fail
      refine (hcT.out _ hX.out.1).mono ?_
      rintro e w13 ⟨rfl, f13⟩
      go_wp2_with fail
      go_ret
      exact ⟨rfl, hX.out.1.trans f13⟩
end Go.Proofs.YtdfgmdddnehocabDoor

namespace Go.Proofs.YtdfgmdddnehocabDoor
open Go.RowKit Go.Maps Go.Lib

set_option maxHeartbeats 20000000 in
set_option maxRecDepth 100000 in
theorem cuts_root (w : World) (L : LaidW w) (b off c : Nat) (t : List Nd) (hI : NodesIn w b off t) (hc : t.length ≤ c) (hS : Sane t) (x : Int) (hx : (Lit.int .i64 x).wf = true) (h : t.length ≤ 300) (h0 : 0 < t.length) (hJ : judged t (oneB t) = 0) (k : Nat) (hk : x % (t.length : Int) = (k : Int)) (hkl : k < t.length) (hz : k = 0) :
    Calls Tryd.prog 3 #[.slice (some ⟨b, off, none⟩) t.length c, .int .i64 x] w fun e w' => e = .returned (.bool true) ∧ Fr [] w w' := by
  obtain ⟨hok, hone⟩ := judged_ok hJ
  have G := ok_good hok
  obtain ⟨hl5, hd5⟩ := judged_deep hJ
  have E := endOf_is (t := t) (k := (k : Int)) (by omega) (by omega)
  have hEg := E.gt
  have hEl := E.le
  obtain ⟨D, hD⟩ : ∃ D, endOf t k - k = D := ⟨_, rfl⟩
  have hD1 : 1 ≤ D := by omega
  have hD3 : D ≤ 300 := by omega
  have h' : ¬ (300 : Int) < (t.length : Int) := by omega
  have h3 : (t.length : Int) ≤ 300 := by omega
  have hkl' : (k : Int) < (t.length : Int) := by omega
  have hk0 : (0 : Int) ≤ (k : Int) := by omega
  have hD1' : (1 : Int) ≤ (D : Int) := by omega
  have hD3' : (D : Int) ≤ 300 := by omega
  have cA := Hid.mk (awake_any w L)
  have cC := Hid.mk (fun w' (f : Fr [] w w') => check_any w' (L.kept f) (some ⟨b, off, none⟩) c t.length t rfl (hI.kept f (by simp)).at hS)
  rw [hJ] at cC
  have cK := Hid.mk (fun w' => pick_any w' x (t.length : Int) hx (by omega) (by omega))
  rw [hk] at cK
  have cP := Hid.mk (fun w' (f : Fr [] w w') => part_at w' (L.kept f) b off c t (hI.kept f (by simp)) hc hS k hkl hok)
  rw [hD] at cP
  have HI := Hid.mk (fun w' (f : Fr [] w w') => (hI.kept f (by simp)) k hkl)
  have hK : knd t k = 1 := by subst hz; exact root_kind hone
  have hN3 : knd t k ≠ 3 := by omega
  have hrp : partL t k = t := by subst hz; exact root_part G hone h0
  have hokp : okT (partL t k) = true := by rw [hrp]; exact hok
  have hz' : ((k : Int) == 0) = true := by rw [beq_iff_eq]; omega
  have hzg : ¬ (0 : Int) < (k : Int) := by omega
  have hcT := Hid.mk (fun w' (f : Fr [] w w') => text_at w' (L.kept f) b off c t (hI.kept f (by simp)) hc hS k hkl hok)
  have hcQ := Hid.mk (fun w' (f : Fr [] w w') g cap (hN : NodesIn w' g 0 (partL t k)) (hcap : D ≤ cap) => text_at w' (L.kept f) g 0 cap (partL t k) hN (by rw [part_len, hD]; exact hcap) (part_sane hS hkl) 0 (by rw [part_len]; omega) hokp)
  rw [part_len, hD, part_text hkl, show ((0 : Nat) : Int) = 0 from rfl] at hcQ
  have hcE := Hid.mk (fun w' (f : Fr [] w w') => End_any w' (L.kept f) (some ⟨b, off, none⟩) c t.length t rfl (hI.kept f (by simp)).at hS k)
  have hh : hasB t k = true := by
    unfold hasB
    rw [hok, decide_eq_true (by omega)]
    rfl
  unfold endS at hcE
  rw [if_pos hh, Int.toNat_natCast] at hcE
  have hcAt := Hid.mk (fun w' (f : Fr [] w w') => Attrs_any w' (L.kept f) (some ⟨b, off, none⟩) t.length c t rfl (hI.kept f (by simp)).at hS k)
  unfold attrsS at hcAt
  rw [if_pos hh, Int.toNat_natCast] at hcAt
  have hcKi := Hid.mk (fun w' (f : Fr [] w w') => Kids_any w' (L.kept f) (some ⟨b, off, none⟩) t.length c t rfl (hI.kept f (by simp)).at hS k)
  unfold kidsS at hcKi
  rw [if_pos hh] at hcKi
  have hbl := below_list G hkl
  obtain ⟨hs1, hs2, hs3⟩ := ch_all G hkl
  have hmem := Hid.mk (fun x (hx : x ∈ chL t k (k + 1)) => ch_mem hkl hx)
  have hlen := ch_len (t := t) (k := k) (y := k + 1)
  have hcM := Hid.mk (fun w' (f : Fr [] w w') m (hm : m < t.length) => part_at w' (L.kept f) b off c t (hI.kept f (by simp)) hc hS m hm hok)
  have hcX := Hid.mk (fun w' (f : Fr [] w w') m (hm : m < t.length) => text_at w' (L.kept f) b off c t (hI.kept f (by simp)) hc hS m hm hok)
  have HJ := Hid.mk (fun w' (f : Fr [] w w') m (hm : m < t.length) => (hI.kept f (by simp)) m hm)
  obtain ⟨EE, hEE⟩ : ∃ EE, endOf t k = EE := ⟨_, rfl⟩
  have hsub : (EE : Int) - (k : Int) = (D : Int) := by omega
  have hEE3 : (EE : Int) ≤ 300 := by omega
  have hEE0 : (0 : Int) ≤ (EE : Int) := by omega
  rw [hEE] at hcE
  have hcl := Hid.mk (cat_len G hkl h)
  obtain ⟨l, hl⟩ : ∃ l, chL t k (k + 1) = l := ⟨_, rfl⟩
  rw [hl] at hbl hs1 hs2 hs3 hmem hlen hcl
  obtain ⟨A1, hA1⟩ : ∃ A1, attrsL k (attrEnds t k) = A1 := ⟨_, rfl⟩
  obtain ⟨K1, hK1e⟩ : ∃ K1, kidsL t k = K1 := ⟨_, rfl⟩
  rw [hA1] at hcAt hbl
  rw [hK1e] at hcKi hbl
  have HBL := Hid.mk hbl
  have hAB := Hid.mk (show A1.length + K1.length ≤ 1000000 from by rw [← List.length_append, hbl]; omega)
  have HS1 := Hid.mk (show 1 + sumT t l = D from by rw [← hD]; exact hs1)
  obtain ⟨LN, hLN⟩ : ∃ LN, l.length = LN := ⟨_, rfl⟩
  have HLN := Hid.mk hLN
  have hll : LN ≤ 300 := by omega
  have hll' : (LN : Int) ≤ 300 := by omega
  obtain ⟨XT, hXT⟩ : ∃ XT, mkS (textN t k) = XT := ⟨_, rfl⟩
  rw [hXT] at hcT hcQ
  have HST := Hid.mk (show mkS (catT t l) = XT from by rw [← hXT]; exact congrArg mkS (hs2 (by omega)))
  have HK := Hid.mk hK
  have pf := Hid.mk (fun w' (f : Fr [] w w') g cap (hN : NodesIn w' g 0 (partL t k)) => check_any w' (L.kept f) (some ⟨g, 0, none⟩) cap D (partL t k) (by rw [part_len, hD]) hN.at (part_sane hS hkl))
  rw [show judged (partL t k) (oneB (partL t k)) = 0 from by rw [hrp]; exact hJ] at pf
  clear hrp
  clear hLN hok hone G hl5 hd5 E hEg hEl hD hJ hk hx hS hI hc L hh hs1 hs2 hs3 hbl hlen hEE hl hA1 hK1e hXT hokp hz hK hN3 
  go_enter Tryd.func3, Tryd.ntmps3
  go_wp2_with fail
  refine cA.out.mono ?_
  rintro e w1 ⟨rfl, f1⟩
  go_wp2_with fail
  refine (cC.out _ f1).mono ?_
  rintro e w2 ⟨rfl, f2⟩
  replace f1 := Hid.mk (f1.trans f2)
  clear f2
  go_wp2_with fail
  refine (cK.out _).mono ?_
  rintro e wz ⟨rfl, hwz⟩
  have hwz2 := hwz.symm
  subst hwz2
  clear hwz
  go_wp2_with fail
  refine (cP.out _ f1.out).mono ?_
  rintro e w3 ⟨⟨g, cap, rfl, hP, hcap⟩, f3⟩
  replace f1 := Hid.mk (f1.out.trans f3)
  clear f3
  obtain ⟨c0, c1, c2, c3⟩ := HI.out _ f1.out
  rw [HK.out] at c0
  have HP := Hid.mk hP
  clear c1 c2 c3 hP
  go_wp2_with fail
  refine (hcE.out _ f1.out).mono ?_
  rintro e w4 ⟨rfl, f3⟩
  have HPk := Hid.mk (HP.out.kept f3 (by simp))
  replace f1 := Hid.mk (f1.out.trans f3)
  clear f3 HP
  go_wp2_with fail
  refine (pf.out _ f1.out g cap HPk.out).mono ?_
  rintro e w5 ⟨rfl, f3⟩
  have HPl := Hid.mk (HPk.out.kept f3 (by simp))
  replace f1 := Hid.mk (f1.out.trans f3)
  clear f3 HPk
  go_wp2_with fail
  refine (hcQ.out _ f1.out g cap HPl.out hcap).mono ?_
  rintro e w6 ⟨rfl, f3⟩
  replace f1 := Hid.mk (f1.out.trans f3)
  clear f3 HPl
  go_wp2_with fail
  refine (hcT.out _ f1.out).mono ?_
  rintro e w7 ⟨rfl, f3⟩
  replace f1 := Hid.mk (f1.out.trans f3)
  clear f3
  go_wp2_with fail
  have F7 := f1
  refine (hcAt.out _ f1.out).mono ?_
  rintro e w8 ⟨⟨v8, rfl, i8⟩, f8⟩
  replace f1 := Hid.mk (f1.out.trans f8)
  have I8 := Hid.mk i8
  clear i8
  go_wp2_with fail
  refine (hcKi.out _ f1.out).mono ?_
  rintro e w9 ⟨⟨v9, rfl, i9⟩, f9⟩
  have I9 := Hid.mk i9
  have F9 := Hid.mk (f8.trans f9)
  have f1b := Hid.mk (f1.out.trans f9)
  obtain ⟨a8, p8, rfl, _⟩ := I8.out.shape
  obtain ⟨a9, p9, rfl, _⟩ := I9.out.shape
  have J8 := Hid.mk (I8.out.kept0 f9)
  clear i9 f8 f9 I8
  go_wp2_with (first
    | (refine wp_appIs rfl _ _ rfl _ (.slice a8 A1.length p8) A1 rfl J8.out F9.out _ (.slice a9 K1.length p9) K1 rfl I9.out hAB.out ?_; intro v w10 hO f10 _; rw [HBL.out] at hO; obtain ⟨aL, pL, eL, _⟩ := hO.shape; rw [HLN.out] at eL; subst eL)
    | fail)
  have HO := Hid.mk hO
  have FT := Hid.mk (F7.out.trans f10)
  clear hO f10 f1 f1b F9 I9 J8 c0
  go_loopw [7, 8, 10] (fun s7 s8 s10 wr => ∃ i : Nat, s10 = .int .i64 (i : Int) ∧ i ≤ LN ∧ s7 = .int .i64 ((1 + sumT t (l.take i) : Nat) : Int) ∧ s8 = .string (mkS (catT t (l.take i))) ∧ Hid (Fr [] w wr ∧ Ints w7 wr (.slice aL LN pL) l)) (fun _ _ s10 _ => LN - (RowKit.intOf s10).toNat)
  case atStart => exact ⟨0, rfl, by omega, rfl, rfl, FT.out, HO.out⟩
  case round =>
    obtain ⟨i, rfl, hi, e7, e8, hX⟩ := hrel
    have hi0 : (0 : Int) ≤ (i : Int) := by omega
    have hle0 := sumT_le (t := t) (l := l) i
    obtain ⟨S1, hS1⟩ : ∃ S1, 1 + sumT t (l.take i) = S1 := ⟨_, rfl⟩
    obtain ⟨C0, hC0⟩ : ∃ C0, mkS (catT t (l.take i)) = C0 := ⟨_, rfl⟩
    have hS1b : S1 ≤ 300 := by have := HS1.out; omega
    have hS1' : (S1 : Int) ≤ 300 := by omega
    have hS10 : (0 : Int) ≤ (S1 : Int) := by omega
    rw [hS1] at e7
    rw [hC0] at e8
    subst e7 e8
    by_cases hlt : i < LN
    · have hlt' : (i : Int) < (LN : Int) := by omega
      have hil : i < l.length := by rw [HLN.out]; exact hlt
      obtain ⟨y, hy⟩ : ∃ y, l.getD i 0 = y := ⟨_, rfl⟩
      have hym : y ∈ l := by rw [← hy, List.getD_eq_getElem?_getD, List.getElem?_eq_getElem hil]; exact List.getElem_mem hil
      obtain ⟨m1, m2, m3, m4⟩ := hmem.out y hym
      have hst := sumT_step (t := t) hil
      have hct := catT_step (t := t) hil
      rw [hy] at hst hct
      have hle1 := sumT_le (t := t) (l := l) (i + 1)
      have cPy := Hid.mk (hcM.out _ hX.out.1 y m3)
      obtain ⟨d, hd⟩ : ∃ d, endOf t y - y = d := ⟨_, rfl⟩
      rw [hd] at cPy hst
      have hdb : (d : Int) ≤ 300 := by have := HS1.out; omega
      have hd0 : (0 : Int) ≤ (d : Int) := by omega
      have HS7 := Hid.mk (show ((1 + sumT t (l.take (i + 1)) : Nat) : Int) = (S1 : Int) + (d : Int) from by omega)
      obtain ⟨g5, p5, e5, _, ci⟩ := hX.out.2.at hil
      rw [HLN.out] at e5
      rw [hy] at ci
      cases e5
      have ci2 := Hid.mk (fun w' (f : Fr [] wr w') => (show w'.cell? ⟨g5, i, none⟩ = some (encI y) from by
        obtain ⟨g7, p7, e7, _, c7⟩ := (hX.out.2.kept0 f).at hil
        rw [HLN.out] at e7
        cases e7
        rw [hy] at c7
        exact c7))
      have m3' : (y : Int) < (t.length : Int) := by omega
      have hy0 : (0 : Int) ≤ (y : Int) := by omega
      have HM3 := Hid.mk m3
      clear hst hle0 hle1 hS1b hym m1 m2 m4 hS1 hd
      by_cases k4 : knd t y = 4
      · have HS8 := Hid.mk (show mkS (catT t (l.take (i + 1))) = C0 ++ mkS (textN t y) from by rw [hct, ← mk_app, hC0]; unfold textC; rw [if_pos (Or.inl k4)])
        have hsz : ¬ 9223372036854775807 < C0.size + (mkS (textN t y)).size := by
          rw [← ByteArray.size_append, ← HS8.out, mkS_size]
          have := hcl.out (i + 1)
          omega
        have K4 := Hid.mk k4
        clear k4 hct hC0 hy hil m3
        go_wp2_with fail
        refine cPy.out.mono ?_
        rintro e w11 ⟨⟨g6, p6, rfl, _, _⟩, f11⟩
        have cj := ci2.out _ f11
        obtain ⟨c0, _, _, _⟩ := HJ.out _ (hX.out.1.trans f11) y HM3.out
        rw [K4.out] at c0
        go_wp2_with fail
        refine (hcX.out _ (hX.out.1.trans f11) y HM3.out).mono ?_
        rintro e w12 ⟨rfl, f12⟩
        go_wp2_with fail
        exact ⟨⟨i + 1, by go_num, by omega, by rw [HS7.out], by rw [HS8.out], (hX.out.1.trans f11).trans f12, hX.out.2.kept0 (f11.trans f12)⟩, by simp [RowKit.intOf]; omega⟩
      by_cases k2 : knd t y = 2
      · have HS8 := Hid.mk (show mkS (catT t (l.take (i + 1))) = C0 ++ mkS (textN t y) from by rw [hct, ← mk_app, hC0]; unfold textC; rw [if_pos (Or.inr k2)])
        have hsz : ¬ 9223372036854775807 < C0.size + (mkS (textN t y)).size := by
          rw [← ByteArray.size_append, ← HS8.out, mkS_size]
          have := hcl.out (i + 1)
          omega
        have K4 := Hid.mk k2
        clear k4 k2 hct hC0 hy hil m3
        go_wp2_with fail
        refine cPy.out.mono ?_
        rintro e w11 ⟨⟨g6, p6, rfl, _, _⟩, f11⟩
        have cj := ci2.out _ f11
        obtain ⟨c0, _, _, _⟩ := HJ.out _ (hX.out.1.trans f11) y HM3.out
        rw [K4.out] at c0
        go_wp2_with fail
        refine (hcX.out _ (hX.out.1.trans f11) y HM3.out).mono ?_
        rintro e w12 ⟨rfl, f12⟩
        go_wp2_with fail
        exact ⟨⟨i + 1, by go_num, by omega, by rw [HS7.out], by rw [HS8.out], (hX.out.1.trans f11).trans f12, hX.out.2.kept0 (f11.trans f12)⟩, by simp [RowKit.intOf]; omega⟩
      · have HS8 := Hid.mk (show mkS (catT t (l.take (i + 1))) = C0 from by rw [hct, ← mk_app, hC0]; unfold textC; rw [if_neg (by omega)]; exact ByteArray.append_empty)
        have q4 : (((knd t y : Nat) : Int) == 4) = false := by rw [beq_eq_false_iff_ne]; omega
        have q2 : (((knd t y : Nat) : Int) == 2) = false := by rw [beq_eq_false_iff_ne]; omega
        obtain ⟨Ky, hKy⟩ : ∃ Ky, knd t y = Ky := ⟨_, rfl⟩
        rw [hKy] at q4 q2
        have K4 := Hid.mk hKy
        clear k4 k2 hct hC0 hy hil m3 hKy
        go_wp2_with fail
        refine cPy.out.mono ?_
        rintro e w11 ⟨⟨g6, p6, rfl, _, _⟩, f11⟩
        have cj := ci2.out _ f11
        obtain ⟨c0, _, _, _⟩ := HJ.out _ (hX.out.1.trans f11) y HM3.out
        rw [K4.out] at c0
        go_wp2_with fail
        exact ⟨⟨i + 1, by go_num, by omega, by rw [HS7.out], by rw [HS8.out], hX.out.1.trans f11, hX.out.2.kept0 f11⟩, by simp [RowKit.intOf]; omega⟩
    · obtain rfl : i = LN := by omega
      have hlt' : ¬ (i : Int) < (i : Int) := by omega
      have hall : l.take i = l := List.take_of_length_le (by rw [HLN.out]; exact Nat.le_refl _)
      rw [hall] at hS1 hC0
      rw [HS1.out] at hS1
      subst hS1
      rw [HST.out] at hC0
      subst hC0
      obtain ⟨c0, _, _, _⟩ := HI.out _ hX.out.1
      rw [HK.out] at c0
      clear hall hle0
      go_wp2_with fail
      refine (hcT.out _ hX.out.1).mono ?_
      rintro e w13 ⟨rfl, f13⟩
      go_wp2_with fail
      go_ret
      exact ⟨rfl, hX.out.1.trans f13⟩
end Go.Proofs.YtdfgmdddnehocabDoor

namespace Go.Proofs.YtdfgmdddnehocabDoor
open Go.RowKit Go.Maps Go.Lib

set_option maxHeartbeats 20000000 in
set_option maxRecDepth 100000 in
theorem cuts_leaf (w : World) (L : LaidW w) (b off c : Nat) (t : List Nd) (hI : NodesIn w b off t) (hc : t.length ≤ c) (hS : Sane t) (x : Int) (hx : (Lit.int .i64 x).wf = true) (h : t.length ≤ 300) (h0 : 0 < t.length) (hJ : judged t (oneB t) = 0) (k : Nat) (hk : x % (t.length : Int) = (k : Int)) (hkl : k < t.length) (hz : 0 < k) (hK2 : knd t k ≠ 2) (hK3 : knd t k ≠ 3) :
    Calls Tryd.prog 3 #[.slice (some ⟨b, off, none⟩) t.length c, .int .i64 x] w fun e w' => e = .returned (.bool true) ∧ Fr [] w w' := by
  obtain ⟨hok, hone⟩ := judged_ok hJ
  have G := ok_good hok
  obtain ⟨hl5, hd5⟩ := judged_deep hJ
  have E := endOf_is (t := t) (k := (k : Int)) (by omega) (by omega)
  have hEg := E.gt
  have hEl := E.le
  obtain ⟨D, hD⟩ : ∃ D, endOf t k - k = D := ⟨_, rfl⟩
  have hD1 : 1 ≤ D := by omega
  have hD3 : D ≤ 300 := by omega
  have h' : ¬ (300 : Int) < (t.length : Int) := by omega
  have h3 : (t.length : Int) ≤ 300 := by omega
  have hkl' : (k : Int) < (t.length : Int) := by omega
  have hk0 : (0 : Int) ≤ (k : Int) := by omega
  have hD1' : (1 : Int) ≤ (D : Int) := by omega
  have hD3' : (D : Int) ≤ 300 := by omega
  have cA := Hid.mk (awake_any w L)
  have cC := Hid.mk (fun w' (f : Fr [] w w') => check_any w' (L.kept f) (some ⟨b, off, none⟩) c t.length t rfl (hI.kept f (by simp)).at hS)
  rw [hJ] at cC
  have cK := Hid.mk (fun w' => pick_any w' x (t.length : Int) hx (by omega) (by omega))
  rw [hk] at cK
  have cP := Hid.mk (fun w' (f : Fr [] w w') => part_at w' (L.kept f) b off c t (hI.kept f (by simp)) hc hS k hkl hok)
  rw [hD] at cP
  have HI := Hid.mk (fun w' (f : Fr [] w w') => (hI.kept f (by simp)) k hkl)
  have hK1 : knd t k ≠ 1 := kind_root G hkl hz
  have hN3 : knd t k ≠ 3 := by omega
  have hfr : judged (partL t k) (noB (partL t k)) = 0 := part_frag G hl5 hd5 hkl hN3 hK1
  have hokp : okT (partL t k) = true := ok_frag hfr
  have hzg : (0 : Int) < (k : Int) := by omega
  have hz' : ¬ (k : Int) = 0 := by omega
  have hcT := Hid.mk (fun w' (f : Fr [] w w') => text_at w' (L.kept f) b off c t (hI.kept f (by simp)) hc hS k hkl hok)
  have hcQ := Hid.mk (fun w' (f : Fr [] w w') g cap (hN : NodesIn w' g 0 (partL t k)) (hcap : D ≤ cap) => text_at w' (L.kept f) g 0 cap (partL t k) hN (by rw [part_len, hD]; exact hcap) (part_sane hS hkl) 0 (by rw [part_len]; omega) hokp)
  rw [part_len, hD, part_text hkl, show ((0 : Nat) : Int) = 0 from rfl] at hcQ
  have hcE := Hid.mk (fun w' (f : Fr [] w w') => End_any w' (L.kept f) (some ⟨b, off, none⟩) c t.length t rfl (hI.kept f (by simp)).at hS k)
  have hh : hasB t k = true := by
    unfold hasB
    rw [hok, decide_eq_true (by omega)]
    rfl
  unfold endS at hcE
  rw [if_pos hh, Int.toNat_natCast] at hcE
  have hcAt := Hid.mk (fun w' (f : Fr [] w w') => Attrs_any w' (L.kept f) (some ⟨b, off, none⟩) t.length c t rfl (hI.kept f (by simp)).at hS k)
  unfold attrsS at hcAt
  rw [if_pos hh, Int.toNat_natCast] at hcAt
  have hcKi := Hid.mk (fun w' (f : Fr [] w w') => Kids_any w' (L.kept f) (some ⟨b, off, none⟩) t.length c t rfl (hI.kept f (by simp)).at hS k)
  unfold kidsS at hcKi
  rw [if_pos hh] at hcKi
  have hbl := below_list G hkl
  obtain ⟨hs1, hs2, hs3⟩ := ch_all G hkl
  have hmem := Hid.mk (fun x (hx : x ∈ chL t k (k + 1)) => ch_mem hkl hx)
  have hlen := ch_len (t := t) (k := k) (y := k + 1)
  have hcM := Hid.mk (fun w' (f : Fr [] w w') m (hm : m < t.length) => part_at w' (L.kept f) b off c t (hI.kept f (by simp)) hc hS m hm hok)
  have hcX := Hid.mk (fun w' (f : Fr [] w w') m (hm : m < t.length) => text_at w' (L.kept f) b off c t (hI.kept f (by simp)) hc hS m hm hok)
  have HJ := Hid.mk (fun w' (f : Fr [] w w') m (hm : m < t.length) => (hI.kept f (by simp)) m hm)
  obtain ⟨EE, hEE⟩ : ∃ EE, endOf t k = EE := ⟨_, rfl⟩
  have hsub : (EE : Int) - (k : Int) = (D : Int) := by omega
  have hEE3 : (EE : Int) ≤ 300 := by omega
  have hEE0 : (0 : Int) ≤ (EE : Int) := by omega
  rw [hEE] at hcE
  have hcl := Hid.mk (cat_len G hkl h)
  obtain ⟨l, hl⟩ : ∃ l, chL t k (k + 1) = l := ⟨_, rfl⟩
  rw [hl] at hbl hs1 hs2 hs3 hmem hlen hcl
  obtain ⟨A1, hA1⟩ : ∃ A1, attrsL k (attrEnds t k) = A1 := ⟨_, rfl⟩
  obtain ⟨K1, hK1e⟩ : ∃ K1, kidsL t k = K1 := ⟨_, rfl⟩
  rw [hA1] at hcAt hbl
  rw [hK1e] at hcKi hbl
  have HBL := Hid.mk hbl
  have hAB := Hid.mk (show A1.length + K1.length ≤ 1000000 from by rw [← List.length_append, hbl]; omega)
  have HS1 := Hid.mk (show 1 + sumT t l = D from by rw [← hD]; exact hs1)
  obtain ⟨LN, hLN⟩ : ∃ LN, l.length = LN := ⟨_, rfl⟩
  have HLN := Hid.mk hLN
  have hll : LN ≤ 300 := by omega
  have hll' : (LN : Int) ≤ 300 := by omega
  obtain ⟨XT, hXT⟩ : ∃ XT, mkS (textN t k) = XT := ⟨_, rfl⟩
  rw [hXT] at hcT hcQ
  have hl0 : l = [] := hs3 (by omega)
  have HL0 := Hid.mk hl0
  have n1 : (((knd t k : Nat) : Int) == 1) = false := by rw [beq_eq_false_iff_ne]; omega
  have n2 : (((knd t k : Nat) : Int) == 2) = false := by rw [beq_eq_false_iff_ne]; omega
  have n3 : (((knd t k : Nat) : Int) == 3) = false := by rw [beq_eq_false_iff_ne]; omega
  clear hl0
  have pf := Hid.mk (fun w' (f : Fr [] w w') g cap (hN : NodesIn w' g 0 (partL t k)) => frag_any w' (L.kept f) (some ⟨g, 0, none⟩) cap D (partL t k) (by rw [part_len, hD]) hN.at (part_sane hS hkl))
  rw [hfr] at pf
  clear hfr
  clear hLN hok hone G hl5 hd5 E hEg hEl hD hJ hk hx hS hI hc L hh hs1 hs2 hs3 hbl hlen hEE hl hA1 hK1e hXT hokp hz hK1 hN3 hK2 hK3 
  go_enter Tryd.func3, Tryd.ntmps3
  go_wp2_with fail
  refine cA.out.mono ?_
  rintro e w1 ⟨rfl, f1⟩
  go_wp2_with fail
  refine (cC.out _ f1).mono ?_
  rintro e w2 ⟨rfl, f2⟩
  replace f1 := Hid.mk (f1.trans f2)
  clear f2
  go_wp2_with fail
  refine (cK.out _).mono ?_
  rintro e wz ⟨rfl, hwz⟩
  have hwz2 := hwz.symm
  subst hwz2
  clear hwz
  go_wp2_with fail
  refine (cP.out _ f1.out).mono ?_
  rintro e w3 ⟨⟨g, cap, rfl, hP, hcap⟩, f3⟩
  replace f1 := Hid.mk (f1.out.trans f3)
  clear f3
  obtain ⟨c0, c1, c2, c3⟩ := HI.out _ f1.out
  obtain ⟨K, hKe⟩ : ∃ K, knd t k = K := ⟨_, rfl⟩
  rw [hKe] at c0 n1 n2 n3
  have HKe := Hid.mk hKe
  clear hKe
  have HP := Hid.mk hP
  clear c1 c2 c3 hP
  go_wp2_with fail
  refine (hcE.out _ f1.out).mono ?_
  rintro e w4 ⟨rfl, f3⟩
  have HPk := Hid.mk (HP.out.kept f3 (by simp))
  replace f1 := Hid.mk (f1.out.trans f3)
  clear f3 HP
  go_wp2_with fail
  refine (pf.out _ f1.out g cap HPk.out).mono ?_
  rintro e w5 ⟨rfl, f3⟩
  have HPl := Hid.mk (HPk.out.kept f3 (by simp))
  replace f1 := Hid.mk (f1.out.trans f3)
  clear f3 HPk
  go_wp2_with fail
  refine (hcQ.out _ f1.out g cap HPl.out hcap).mono ?_
  rintro e w6 ⟨rfl, f3⟩
  replace f1 := Hid.mk (f1.out.trans f3)
  clear f3 HPl
  go_wp2_with fail
  refine (hcT.out _ f1.out).mono ?_
  rintro e w7 ⟨rfl, f3⟩
  replace f1 := Hid.mk (f1.out.trans f3)
  clear f3
  go_wp2_with fail
  have F7 := f1
  refine (hcAt.out _ f1.out).mono ?_
  rintro e w8 ⟨⟨v8, rfl, i8⟩, f8⟩
  replace f1 := Hid.mk (f1.out.trans f8)
  have I8 := Hid.mk i8
  clear i8
  go_wp2_with fail
  refine (hcKi.out _ f1.out).mono ?_
  rintro e w9 ⟨⟨v9, rfl, i9⟩, f9⟩
  have I9 := Hid.mk i9
  have F9 := Hid.mk (f8.trans f9)
  have f1b := Hid.mk (f1.out.trans f9)
  obtain ⟨a8, p8, rfl, _⟩ := I8.out.shape
  obtain ⟨a9, p9, rfl, _⟩ := I9.out.shape
  have J8 := Hid.mk (I8.out.kept0 f9)
  clear i9 f8 f9 I8
  go_wp2_with (first
    | (refine wp_appIs rfl _ _ rfl _ (.slice a8 A1.length p8) A1 rfl J8.out F9.out _ (.slice a9 K1.length p9) K1 rfl I9.out hAB.out ?_; intro v w10 hO f10 _; rw [HBL.out] at hO; obtain ⟨aL, pL, eL, _⟩ := hO.shape; rw [HLN.out] at eL; subst eL)
    | fail)
  have HO := Hid.mk hO
  have FT := Hid.mk (F7.out.trans f10)
  clear hO f10 f1 f1b F9 I9 J8 c0
  go_loopw [7, 8, 10] (fun s7 s8 s10 wr => ∃ i : Nat, s10 = .int .i64 (i : Int) ∧ i ≤ LN ∧ s7 = .int .i64 ((1 + sumT t (l.take i) : Nat) : Int) ∧ s8 = .string (mkS (catT t (l.take i))) ∧ Hid (Fr [] w wr ∧ Ints w7 wr (.slice aL LN pL) l)) (fun _ _ s10 _ => LN - (RowKit.intOf s10).toNat)
  case atStart => exact ⟨0, rfl, by omega, rfl, rfl, FT.out, HO.out⟩
  case round =>
    obtain ⟨i, rfl, hi, e7, e8, hX⟩ := hrel
    have hi0 : (0 : Int) ≤ (i : Int) := by omega
    have hle0 := sumT_le (t := t) (l := l) i
    obtain ⟨S1, hS1⟩ : ∃ S1, 1 + sumT t (l.take i) = S1 := ⟨_, rfl⟩
    obtain ⟨C0, hC0⟩ : ∃ C0, mkS (catT t (l.take i)) = C0 := ⟨_, rfl⟩
    have hS1b : S1 ≤ 300 := by have := HS1.out; omega
    have hS1' : (S1 : Int) ≤ 300 := by omega
    have hS10 : (0 : Int) ≤ (S1 : Int) := by omega
    rw [hS1] at e7
    rw [hC0] at e8
    subst e7 e8
    by_cases hlt : i < LN
    · have hlt' : (i : Int) < (LN : Int) := by omega
      have hil : i < l.length := by rw [HLN.out]; exact hlt
      obtain ⟨y, hy⟩ : ∃ y, l.getD i 0 = y := ⟨_, rfl⟩
      have hym : y ∈ l := by rw [← hy, List.getD_eq_getElem?_getD, List.getElem?_eq_getElem hil]; exact List.getElem_mem hil
      obtain ⟨m1, m2, m3, m4⟩ := hmem.out y hym
      have hst := sumT_step (t := t) hil
      have hct := catT_step (t := t) hil
      rw [hy] at hst hct
      have hle1 := sumT_le (t := t) (l := l) (i + 1)
      have cPy := Hid.mk (hcM.out _ hX.out.1 y m3)
      obtain ⟨d, hd⟩ : ∃ d, endOf t y - y = d := ⟨_, rfl⟩
      rw [hd] at cPy hst
      have hdb : (d : Int) ≤ 300 := by have := HS1.out; omega
      have hd0 : (0 : Int) ≤ (d : Int) := by omega
      have HS7 := Hid.mk (show ((1 + sumT t (l.take (i + 1)) : Nat) : Int) = (S1 : Int) + (d : Int) from by omega)
      obtain ⟨g5, p5, e5, _, ci⟩ := hX.out.2.at hil
      rw [HLN.out] at e5
      rw [hy] at ci
      cases e5
      have ci2 := Hid.mk (fun w' (f : Fr [] wr w') => (show w'.cell? ⟨g5, i, none⟩ = some (encI y) from by
        obtain ⟨g7, p7, e7, _, c7⟩ := (hX.out.2.kept0 f).at hil
        rw [HLN.out] at e7
        cases e7
        rw [hy] at c7
        exact c7))
      have m3' : (y : Int) < (t.length : Int) := by omega
      have hy0 : (0 : Int) ≤ (y : Int) := by omega
      have HM3 := Hid.mk m3
      clear hst hle0 hle1 hS1b hym m1 m2 m4 hS1 hd
      by_cases k4 : knd t y = 4
      · have HS8 := Hid.mk (show mkS (catT t (l.take (i + 1))) = C0 ++ mkS (textN t y) from by rw [hct, ← mk_app, hC0]; unfold textC; rw [if_pos (Or.inl k4)])
        have hsz : ¬ 9223372036854775807 < C0.size + (mkS (textN t y)).size := by
          rw [← ByteArray.size_append, ← HS8.out, mkS_size]
          have := hcl.out (i + 1)
          omega
        have K4 := Hid.mk k4
        clear k4 hct hC0 hy hil m3
        go_wp2_with fail
        refine cPy.out.mono ?_
        rintro e w11 ⟨⟨g6, p6, rfl, _, _⟩, f11⟩
        have cj := ci2.out _ f11
        obtain ⟨c0, _, _, _⟩ := HJ.out _ (hX.out.1.trans f11) y HM3.out
        rw [K4.out] at c0
        go_wp2_with fail
        refine (hcX.out _ (hX.out.1.trans f11) y HM3.out).mono ?_
        rintro e w12 ⟨rfl, f12⟩
        go_wp2_with fail
        exact ⟨⟨i + 1, by go_num, by omega, by rw [HS7.out], by rw [HS8.out], (hX.out.1.trans f11).trans f12, hX.out.2.kept0 (f11.trans f12)⟩, by simp [RowKit.intOf]; omega⟩
      by_cases k2 : knd t y = 2
      · have HS8 := Hid.mk (show mkS (catT t (l.take (i + 1))) = C0 ++ mkS (textN t y) from by rw [hct, ← mk_app, hC0]; unfold textC; rw [if_pos (Or.inr k2)])
        have hsz : ¬ 9223372036854775807 < C0.size + (mkS (textN t y)).size := by
          rw [← ByteArray.size_append, ← HS8.out, mkS_size]
          have := hcl.out (i + 1)
          omega
        have K4 := Hid.mk k2
        clear k4 k2 hct hC0 hy hil m3
        go_wp2_with fail
        refine cPy.out.mono ?_
        rintro e w11 ⟨⟨g6, p6, rfl, _, _⟩, f11⟩
        have cj := ci2.out _ f11
        obtain ⟨c0, _, _, _⟩ := HJ.out _ (hX.out.1.trans f11) y HM3.out
        rw [K4.out] at c0
        go_wp2_with fail
        refine (hcX.out _ (hX.out.1.trans f11) y HM3.out).mono ?_
        rintro e w12 ⟨rfl, f12⟩
        go_wp2_with fail
        exact ⟨⟨i + 1, by go_num, by omega, by rw [HS7.out], by rw [HS8.out], (hX.out.1.trans f11).trans f12, hX.out.2.kept0 (f11.trans f12)⟩, by simp [RowKit.intOf]; omega⟩
      · have HS8 := Hid.mk (show mkS (catT t (l.take (i + 1))) = C0 from by rw [hct, ← mk_app, hC0]; unfold textC; rw [if_neg (by omega)]; exact ByteArray.append_empty)
        have q4 : (((knd t y : Nat) : Int) == 4) = false := by rw [beq_eq_false_iff_ne]; omega
        have q2 : (((knd t y : Nat) : Int) == 2) = false := by rw [beq_eq_false_iff_ne]; omega
        obtain ⟨Ky, hKy⟩ : ∃ Ky, knd t y = Ky := ⟨_, rfl⟩
        rw [hKy] at q4 q2
        have K4 := Hid.mk hKy
        clear k4 k2 hct hC0 hy hil m3 hKy
        go_wp2_with fail
        refine cPy.out.mono ?_
        rintro e w11 ⟨⟨g6, p6, rfl, _, _⟩, f11⟩
        have cj := ci2.out _ f11
        obtain ⟨c0, _, _, _⟩ := HJ.out _ (hX.out.1.trans f11) y HM3.out
        rw [K4.out] at c0
        go_wp2_with fail
        exact ⟨⟨i + 1, by go_num, by omega, by rw [HS7.out], by rw [HS8.out], hX.out.1.trans f11, hX.out.2.kept0 f11⟩, by simp [RowKit.intOf]; omega⟩
    · obtain rfl : i = LN := by omega
      have hlt' : ¬ (i : Int) < (i : Int) := by omega
      have hall : l.take i = l := List.take_of_length_le (by rw [HLN.out]; exact Nat.le_refl _)
      rw [hall] at hS1 hC0
      rw [HS1.out] at hS1
      subst hS1
      have hi00 : i = 0 := by have := HLN.out; rw [HL0.out] at this; simpa using this.symm
      subst hi00
      obtain ⟨c0, _, _, _⟩ := HI.out _ hX.out.1
      rw [HKe.out] at c0
      clear hall hle0 hC0
      go_wp2_with fail
      go_ret
      exact ⟨rfl, hX.out.1⟩
end Go.Proofs.YtdfgmdddnehocabDoor

namespace Go.Proofs.YtdfgmdddnehocabDoor
open Go.RowKit Go.Maps Go.Lib

theorem cuts_all (w : World) (L : LaidW w) (ad : Option Addr) (n c : Nat) (t : List Nd) (hn : t.length = n) (hc : n ≤ c) (hN : NodesAt w ad t) (hS : Sane t) (x : Int) (hx : (Lit.int .i64 x).wf = true) :
    Calls Tryd.prog 3 #[.slice ad n c, .int .i64 x] w fun e w' => e = .returned (.bool true) ∧ Fr [] w w' := by
  by_cases h : n ≤ 300
  · by_cases hJ : judged t (oneB t) = 0
    · have h0 : 0 < t.length := by
        rcases Nat.eq_zero_or_pos t.length with e | e
        · obtain rfl : t = [] := List.eq_nil_of_length_eq_zero e
          rw [judged_none1] at hJ
          cases hJ
        · exact e
      obtain ⟨b, off, rfl, hI⟩ := hN.in h0
      subst hn
      obtain ⟨k, hk, hkl⟩ : ∃ k : Nat, x % (t.length : Int) = (k : Int) ∧ k < t.length := by
        have h1 := Int.emod_nonneg x (show (t.length : Int) ≠ 0 by omega)
        have h2 := Int.emod_lt_of_pos x (show (0 : Int) < (t.length : Int) by omega)
        exact ⟨(x % (t.length : Int)).toNat, by omega, by omega⟩
      by_cases hz : k = 0
      · exact cuts_root w L b off c t hI hc hS x hx h h0 hJ k hk hkl hz
      · by_cases h3 : knd t k = 3
        · exact cuts_attr w L b off c t hI hc hS x hx h h0 hJ k hk hkl h3
        · by_cases h2 : knd t k = 2
          · exact cuts_el w L b off c t hI hc hS x hx h h0 hJ k hk hkl (by omega) h2
          · exact cuts_leaf w L b off c t hI hc hS x hx h h0 hJ k hk hkl (by omega) h2 h3
    · exact cuts_bad w L ad n c t hn hN hS x h hJ
  · exact cuts_long w L ad n c x (by omega)
end Go.Proofs.YtdfgmdddnehocabDoor

