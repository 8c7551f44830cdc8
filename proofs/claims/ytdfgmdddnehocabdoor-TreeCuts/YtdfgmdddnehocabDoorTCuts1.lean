/-
  TreeCuts: the walk.
-/
import Derived.Test.YtdfgmdddnehocabDoorTCuts0
namespace Go.Proofs.YtdfgmdddnehocabDoor
open Go.RowKit Go.Maps Go.Lib

set_option maxHeartbeats 4000000 in
set_option maxRecDepth 100000 in
theorem cuts_long (w : World) (L : LaidW w) (ad : Option Addr) (n c : Nat) (x : Int) (h : 300 < n) :
    Calls Tryd.prog 3 #[.slice ad n c, .int .i64 x] w fun e w' => e = .returned (.bool true) ∧ Fr [] w w' := by
  have h' : (300 : Int) < (n : Int) := by omega
  go_enter Tryd.func3, Tryd.ntmps3
  go_wp2_with (go_at_call 4; refine (awake_any _ L).mono ?_; rintro e w1 ⟨rfl, f1⟩)
  go_ret
  exact ⟨rfl, f1⟩
set_option maxHeartbeats 4000000 in
set_option maxRecDepth 100000 in
theorem cuts_bad (w : World) (L : LaidW w) (ad : Option Addr) (n c : Nat) (t : List Nd) (hn : t.length = n) (hN : NodesAt w ad t) (hS : Sane t) (x : Int) (h : n ≤ 300) (hJ : judged t (oneB t) ≠ 0) :
    Calls Tryd.prog 3 #[.slice ad n c, .int .i64 x] w fun e w' => e = .returned (.bool true) ∧ Fr [] w w' := by
  have h' : ¬ (300 : Int) < (n : Int) := by omega
  have HN := Hid.mk hN
  have HS := Hid.mk hS
  have HL := Hid.mk L
  have Hn := Hid.mk hn
  obtain ⟨J, hJe⟩ : ∃ J, judged t (oneB t) = J := ⟨_, rfl⟩
  have HJ := Hid.mk hJe
  have hJb : ((J : Int) != 0) = true := by rw [bne_iff_ne]; omega
  clear hN hS L hn hJ hJe
  go_enter Tryd.func3, Tryd.ntmps3
  go_wp2_with (first
    | (go_at_call 4; refine (awake_any _ HL.out).mono ?_; rintro e w1 ⟨rfl, f1⟩)
    | (go_at_call 5; refine (check_any _ (HL.out.kept f1) ad c n t Hn.out (HN.out.kept f1) HS.out).mono ?_; rw [HJ.out]; rintro e w2 ⟨rfl, f2⟩))
  go_ret
  exact ⟨rfl, f1.trans f2⟩
set_option maxHeartbeats 20000000 in
set_option maxRecDepth 100000 in
theorem cuts_attr (w : World) (L : LaidW w) (b off c : Nat) (t : List Nd) (hI : NodesIn w b off t) (hc : t.length ≤ c) (hS : Sane t) (x : Int) (hx : (Lit.int .i64 x).wf = true) (h : t.length ≤ 300) (h0 : 0 < t.length) (hJ : judged t (oneB t) = 0) (k : Nat) (hk : x % (t.length : Int) = (k : Int)) (hkl : k < t.length) (hK : knd t k = 3) :
    Calls Tryd.prog 3 #[.slice (some ⟨b, off, none⟩) t.length c, .int .i64 x] w fun e w' => e = .returned (.bool true) ∧ Fr [] w w' := by
  obtain ⟨hok, hone⟩ := judged_ok hJ
  have G := ok_good hok
  obtain ⟨hl5, hd5⟩ := judged_deep hJ
  have E := endOf_is (t := t) (k := (k : Int)) (by omega) (by omega)
  have hEg := E.gt
  have hEl := E.le
  obtain ⟨D, hD⟩ : ∃ D, endOf t k - k = D := ⟨_, rfl⟩
  have hD1 : 1 ≤ D := by omega
  have hD3 : D ≤ 300 := by omega
  have h' : ¬ (300 : Int) < (t.length : Int) := by omega
  have h3 : (t.length : Int) ≤ 300 := by omega
  have hkl' : (k : Int) < (t.length : Int) := by omega
  have hk0 : (0 : Int) ≤ (k : Int) := by omega
  have hD1' : (1 : Int) ≤ (D : Int) := by omega
  have hD3' : (D : Int) ≤ 300 := by omega
  have cA := Hid.mk (awake_any w L)
  have cC := Hid.mk (fun w' (f : Fr [] w w') => check_any w' (L.kept f) (some ⟨b, off, none⟩) c t.length t rfl (hI.kept f (by simp)).at hS)
  rw [hJ] at cC
  have cK := Hid.mk (fun w' => pick_any w' x (t.length : Int) hx (by omega) (by omega))
  rw [hk] at cK
  have cP := Hid.mk (fun w' (f : Fr [] w w') => part_at w' (L.kept f) b off c t (hI.kept f (by simp)) hc hS k hkl hok)
  rw [hD] at cP
  have HI := Hid.mk (fun w' (f : Fr [] w w') => (hI.kept f (by simp)) k hkl)
  have hDe : D = 1 := by
    have := end_leaf G hkl (by omega) (by omega)
    omega
  subst hDe
  have pk := part_nam (t := t) (k := k) (j := 0) (by omega)
  have pv := part_vlu (t := t) (k := k) (j := 0) (by omega)
  have pp := part_par (t := t) (k := k) (j := 0) (by omega)
  rw [Nat.add_zero] at pk pv
  rw [if_pos rfl] at pp
  have HQ := Hid.mk (show (partL t k).length = 1 from by rw [part_len, hD])
  have PK := Hid.mk pk
  have PV := Hid.mk pv
  have PP := Hid.mk pp
  have HK := Hid.mk hK
  clear hok hone G hl5 hd5 E hEg hEl hD hJ hk hx hS hI hc L pk pv pp hK
  go_enter Tryd.func3, Tryd.ntmps3
  go_wp2_with fail
  refine cA.out.mono ?_
  rintro e w1 ⟨rfl, f1⟩
  go_wp2_with fail
  refine (cC.out _ f1).mono ?_
  rintro e w2 ⟨rfl, f2⟩
  replace f1 := Hid.mk (f1.trans f2)
  clear f2
  go_wp2_with fail
  refine (cK.out _).mono ?_
  rintro e wz ⟨rfl, hwz⟩
  have hwz2 := hwz.symm
  subst hwz2
  clear hwz
  go_wp2_with fail
  refine (cP.out _ f1.out).mono ?_
  rintro e w3 ⟨⟨g, cap, rfl, hP, hcap⟩, f3⟩
  replace f1 := Hid.mk (f1.out.trans f3)
  clear f3
  obtain ⟨c0, c1, c2, c3⟩ := HI.out _ f1.out
  rw [HK.out] at c0
  obtain ⟨d0, d1, d2, d3⟩ := hP 0 (by rw [HQ.out]; decide)
  rw [PK.out] at d1
  rw [PV.out] at d2
  rw [PP.out] at d3
  clear d0 hP hcap
  generalize nam t k = NM at c1 d1
  generalize vlu t k = VL at c2 d2
  go_wp2_with fail
  go_quiet (fail)
  go_wp2_with fail
  go_ret
  exact ⟨rfl, f1.out.drewN _⟩
end Go.Proofs.YtdfgmdddnehocabDoor
