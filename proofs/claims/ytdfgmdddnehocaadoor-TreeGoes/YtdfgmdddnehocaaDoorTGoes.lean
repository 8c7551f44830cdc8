/-
  TreeGoes: the walk.
-/
import Derived.Test.YtdfgmdddnehocaaDoorTRefGo
import Derived.Test.YtdfgmdddnehocaaDoorTChk
namespace Go.Proofs.YtdfgmdddnehocaaDoor
open Go.RowKit Go.Maps Go.Lib

set_option maxRecDepth 100000 in
theorem refGo_any (w : World) (ad : Option Addr) (c n : Nat) (t : List Nd) (hn : t.length = n) (hN : NodesAt w ad t) (hl : n ≤ 300) (hZ : Short t) (k : Int) (ax : Nat) (hax : ax < 256) :
    Calls Tryd.prog 17 #[.slice ad n c, .int .i64 k, .int .u8 (ax : Int)] w fun e w' => (∃ v, e = .returned v ∧ Ints w w' v (goL t k ax)) ∧ Fr [] w w' := by
  have cP := refPlace_any w ad c n t hn hN hl hZ k
  unfold goL
  cases hh : hasB t k with
  | false =>
    rw [if_neg (by decide)]
    rw [hh] at cP
    have CP := Hid.mk cP
    clear cP hN hZ hn hh
    go_enter Tryd.func17, Tryd.ntmps17
    go_wp2_with (go_at_call 41; refine CP.out.mono ?_; rintro e w5 ⟨rfl, f5⟩)
    go_ret
    exact ⟨⟨_, rfl, Ints.nil _ _⟩, f5⟩
  | true =>
    rw [if_pos rfl]
    rw [hh] at cP
    have h := hh
    unfold hasB at h
    rw [Bool.and_eq_true, decide_eq_true_eq] at h
    obtain ⟨m, rfl⟩ : ∃ m : Nat, k = (m : Int) := ⟨k.toNat, by omega⟩
    rw [Int.toNat_natCast]
    obtain ⟨b, off, rfl, hI⟩ := hN.in (by omega)
    subst hn
    exact refGo_at w b off c t hI hl (ok_good h.2) m (by omega) ax hax cP
theorem sameInts_eq (w u1 u2 : World) (v1 v2 : Value) (l : List Nat) (h1 : Ints u1 w v1 l) (h2 : Ints u2 w v2 l) (hb : l.length ≤ 100000) :
    Calls Tryd.prog 15 #[v1, v2] w fun e w' => e = .returned (.bool true) ∧ Fr [] w w' := by
  refine (sameInts_any w u1 u2 v1 v2 l l h1 h2 hb).mono ?_
  rintro e w' ⟨rfl, f⟩
  exact ⟨by rw [decide_eq_true rfl], f⟩
theorem goL_len {t : List Nd} (k : Int) (ax : Nat) (h : t.length ≤ 300) : (goL t k ax).length ≤ 100000 := by
  unfold goL
  split
  · rename_i hh
    unfold hasB at hh
    rw [Bool.and_eq_true, decide_eq_true_eq] at hh
    obtain ⟨m, rfl⟩ : ∃ m : Nat, k = (m : Int) := ⟨k.toNat, by omega⟩
    rw [Int.toNat_natCast]
    have hm : m < t.length := by omega
    have G := ok_good hh.2
    have hE := end_len t m hm
    have l1 := lst_len hm 1
    have l2 := lst_len hm 2
    have l3 := lst_len hm 3
    have l4 := lst_len hm 4
    have ls := sib_len t m (by omega) hm (G m hm).1
    have O := (G m hm).1
    have lb : (sibBehind t m).length ≤ 16384 := by
      unfold sibBehind
      split
      · simp
      · refine Nat.le_trans (List.length_filter_le _ _) (Nat.le_trans (kidsTo_len _ _ _) ?_)
        have := (endOf_is (t := t) (k := par t m) O.1 (by have := O.2.1; omega)).le
        omega
    have lk : (kidsL t (m : Int)).length ≤ t.length := Nat.le_trans (kidsTo_len _ _ _) hE
    have la := (attrEnds_is (t := t) hm).le
    have e1 : (lst t m 1) = anc t m := rfl
    have e2 : (lst t m 2) = str t (m + 1) (endOf t m) := rfl
    have e3 : (lst t m 3) = str t (endOf t m) t.length := rfl
    have e4 : (lst t m 4) = prec t m := rfl
    rw [e1] at l1
    rw [e2] at l2
    rw [e3] at l3
    rw [e4] at l4
    unfold goA
    split
    · omega
    · omega
    · rw [List.length_take]; omega
    · omega
    · omega
    · rw [List.length_reverse]; omega
    · omega
    · omega
    · rw [attrs_len]; omega
    · simp
    · rw [List.length_cons]; omega
    · rw [List.length_cons]; omega
    · simp
  · simp
set_option maxHeartbeats 8000000 in
set_option maxRecDepth 100000 in
theorem goes_law (w : World) (L : LaidW w) (ad : Option Addr) (c n : Nat) (t : List Nd) (hn : t.length = n) (hN : NodesAt w ad t) (hS : Sane t) (hZ : Short t) (hnil : ad = none → c = 0) (k : Int) (ax : Nat) (hax : ax < 256) :
    Calls Tryd.prog 4 #[.slice ad n c, .int .i64 k, .int .u8 (ax : Int)] w fun e w' => e = .returned (.bool true) ∧ Fr [] w w' := by
  have cA := Hid.mk (awake_any w L)
  have HL := Hid.mk L
  have HA := Hid.mk hN
  have HN := Hid.mk hn
  by_cases hl : n ≤ 300
  · have hl' : ¬ (300 : Int) < (n : Int) := by omega
    have cL := Hid.mk (fun w' (f : Fr [] w w') => lent_any w' ad c n t hn (hN.kept f) hl hnil)
    have c1 := Hid.mk (fun w' (f : Fr [] w w') g cap (le : LentN w' g cap t) => Go_any w' (L.kept f) (some ⟨g, 0, none⟩) n cap t hn le.nodes.at hS k ax)
    have c2 := Hid.mk (fun w' (f : Fr [] w w') => refGo_any w' ad c n t hn (hN.kept f) hl hZ k ax hax)
    have hgl := goL_len k ax (by omega : t.length ≤ 300)
    generalize goL t k ax = GL at c1 c2 hgl
    generalize (ax : Int) = X at c1 c2
    clear L hN hn hnil hS hZ hax
    go_enter Tryd.func4, Tryd.ntmps4
    go_wp2_with (first
      | (go_at_call 8; refine (cA.out).mono ?_; rintro e w1 ⟨rfl, f1⟩)
      | (go_at_call 9; refine (cL.out _ f1).mono ?_; rintro e w2 ⟨⟨g, cap, rfl, le2, hg⟩, f2⟩; have F2 := Hid.mk (f1.trans f2); have LE := Hid.mk le2; clear le2)
      | (go_at_call 16; refine (c1.out _ F2.out g cap LE.out).mono ?_; rintro e w3 ⟨⟨v3, rfl, hv3⟩, f3⟩; have F3 := Hid.mk (F2.out.trans f3); have LE3 := Hid.mk (LE.out.kept f3); have V3 := Hid.mk hv3; clear hv3)
      | (go_at_call 17; refine (c2.out _ F3.out).mono ?_; rintro e w4 ⟨⟨v4, rfl, hv4⟩, f4⟩; have F4 := Hid.mk (F3.out.trans f4); have LE4 := Hid.mk (LE3.out.kept f4); have V4 := Hid.mk hv4; have V34 := Hid.mk (V3.out.kept0 f4); clear hv4)
      | (go_at_call 15; refine (sameInts_eq _ w2 w3 v3 v4 GL V34.out V4.out hgl).mono ?_; rintro e w5 ⟨rfl, f5⟩; have F5 := Hid.mk (F4.out.trans f5); have LE5 := Hid.mk (LE4.out.kept f5))
      | (go_at_call 14; refine (keptN_any _ g cap n c ad t HN.out hl LE5.out (HA.out.kept F5.out)).mono ?_; rintro e w7 ⟨rfl, f7⟩; have F7 := Hid.mk (F5.out.trans f7)))
    go_ret
    exact ⟨rfl, F7.out⟩
  · have hl' : (300 : Int) < (n : Int) := by omega
    clear L hN hn hnil hS hZ hax
    go_enter Tryd.func4, Tryd.ntmps4
    go_wp2_with (go_at_call 8; refine (cA.out).mono ?_; rintro e w1 ⟨rfl, f1⟩)
    go_ret
    exact ⟨rfl, f1⟩
theorem goes_all (w : World) (L : LaidW w) (ad : Option Addr) (n c : Nat) (t : List Nd) (hn : t.length = n) (hN : NodesAt w ad t) (hS : Sane t) (hZ : Short t) (hnil : ad = none → c = 0) (k : Int) (ax : Int) (hax : (Lit.int .u8 ax).wf = true) :
    Calls Tryd.prog 4 #[.slice ad n c, .int .i64 k, .int .u8 ax] w fun e w' => e = .returned (.bool true) ∧ Fr [] w w' := by
  have hb : 0 ≤ ax ∧ ax < 256 := by
    simp [Lit.wf, show IntKind.u8.min = 0 from rfl, show IntKind.u8.max = 255 from rfl] at hax
    omega
  obtain ⟨m, rfl⟩ : ∃ m : Nat, ax = (m : Int) := ⟨ax.toNat, by omega⟩
  exact goes_law w L ad c n t hn hN hS hZ hnil k m (by omega)
end Go.Proofs.YtdfgmdddnehocaaDoor
