/-
  KeyRows, KeyWholes: the walks.
-/
import Derived.Test.YthaekjolbjmjfaaDoorKLaw1
namespace Go.Proofs.YthaekjolbjmjfaaDoor
open Go.RowKit Go.Maps

set_option maxHeartbeats 2000000 in
set_option maxRecDepth 100000 in
theorem keyRows_long (w : World) (L : LaidW w) (ad : Option Addr) (n c : Nat) (hn : 20000 < n) :
    Calls Tryd.prog 4 #[.slice ad n c] w fun e w' => e = .returned (.bool true) ∧ Fr [] w w' := by
  have hn' : (20000 : Int) < (n : Int) := by omega
  go_enter Tryd.func4, Tryd.ntmps4
  go_wp2_with (go_at_call 9; refine (awake_any _ L).mono ?_; rintro e w1 ⟨rfl, f1⟩)
  go_ret
  exact ⟨rfl, f1⟩

set_option maxHeartbeats 2000000 in
set_option maxRecDepth 100000 in
theorem keyRows_law (w : World) (L : LaidW w) (ad : Option Addr) (n c : Nat) (l : List UInt8) (hl : l.length = n) (hb : BytesAt w ad l) (hn : n ≤ 20000) :
    Calls Tryd.prog 4 #[.slice ad n c] w fun e w' => e = .returned (.bool true) ∧ Fr [] w w' := by
  have hn' : (n : Int) ≤ 20000 := by omega
  have hn2 : ¬ (20000 : Int) < (n : Int) := by omega
  have HL := Lib.hid hl
  have hk1 : (putB l).length ≤ 100000 := by
    have := esc_length_le l
    simp [putB]
    omega
  have hk2 : (rowGot (getB l)).length ≤ 100000 := by
    cases h : getB l with
    | none => simp [rowGot]
    | some p =>
      have := getB_row_le (x := p.1) (k := p.2) h
      simp [rowGot]
      omega
  obtain ⟨K, HK⟩ : ∃ K, Hid ((putB l).length = K) := ⟨(putB l).length, rfl⟩
  obtain ⟨J, HJ⟩ : ∃ J, Hid ((rowGot (getB l)).length = J) := ⟨(rowGot (getB l)).length, rfl⟩
  rw [HK.out] at hk1
  rw [HJ.out] at hk2
  obtain ⟨G, HGe⟩ : ∃ G, Hid ((lenGot (getB l) : Int) = G) := ⟨(lenGot (getB l) : Int), rfl⟩
  clear hl
  go_enter Tryd.func4, Tryd.ntmps4
  go_wp2_with fail
  refine (getBytes_out _ ad n c J l HL.out hb (by omega) HJ.out).mono ?_
  rw [HGe.out]
  rintro e w1 ⟨ad1, cap1, rfl, o1⟩
  go_wp2_with fail
  refine (rGetBytes_out _ ad n c J l HL.out (hb.kept o1.2 (by simp)) (by omega) HJ.out).mono ?_
  rw [HGe.out]
  rintro e w2 ⟨ad2, cap2, rfl, o2⟩
  have f2 := o1.2.trans o2.2
  go_wp2_with fail
  refine (putBytes_out _ ad n c K l HL.out (hb.kept f2 (by simp)) (by omega) HK.out).mono ?_
  rintro e w3 ⟨ad3, cap3, rfl, o3⟩
  have f3 := f2.trans o3.2
  go_wp2_with fail
  refine (rPutBytes_out _ ad n c K l HL.out (hb.kept f3 (by simp)) (by omega) HK.out).mono ?_
  rintro e w4 ⟨ad4, cap4, rfl, o4⟩
  have f4 := f3.trans o4.2
  go_wp2_with fail
  refine (aw_same _ _ _ K _ _ _ HK.out (o3.bytes.kept o4.2 (by simp)) o4.bytes (by omega)).mono ?_
  rintro e w5 ⟨rfl, f5⟩
  have b1 := ((((o1.bytes.kept o2.2 (by simp)).kept o3.2 (by simp)).kept o4.2 (by simp)).kept f5 (by simp))
  have b2 := ((o2.bytes.kept o3.2 (by simp)).kept o4.2 (by simp)).kept f5 (by simp)
  replace f5 := f4.trans f5
  clear o1 o2 o3 o4 f2 f3 f4
  go_wp2_with fail
  refine (aw_same _ _ _ J _ _ _ HJ.out b1 b2 (by omega)).mono ?_
  rintro e w6 ⟨rfl, f6⟩
  replace f6 := f5.trans f6
  clear b1 b2 f5
  go_wp2_with fail
  refine (awake_any _ (L.kept f6)).mono ?_
  rintro e w7 ⟨rfl, f7⟩
  go_wp2_with fail
  go_ret
  exact ⟨by simp, f6.trans f7⟩

set_option maxHeartbeats 2000000 in
set_option maxRecDepth 100000 in
theorem keyWholes_long (w : World) (L : LaidW w) (s : ByteArray) (n : Nat) (hs : s.size = n) (hn : 20000 < n) :
    Calls Tryd.prog 5 #[.string s] w fun e w' => e = .returned (.bool true) ∧ Fr [] w w' := by
  have hn' : (20000 : Int) < (n : Int) := by omega
  go_enter Tryd.func5, Tryd.ntmps5
  go_wp2_with (go_at_call 9; refine (awake_any _ L).mono ?_; rintro e w1 ⟨rfl, f1⟩)
  go_ret
  exact ⟨rfl, f1⟩

set_option maxHeartbeats 2000000 in
set_option maxRecDepth 100000 in
theorem keyWholes_law (w : World) (L : LaidW w) (s : ByteArray) (n : Nat) (hs : s.size = n) (hn : n ≤ 20000) :
    Calls Tryd.prog 5 #[.string s] w fun e w' => e = .returned (.bool true) ∧ Fr [] w w' := by
  have hn' : (n : Int) ≤ 20000 := by omega
  have hn2 : ¬ (20000 : Int) < (n : Int) := by omega
  obtain ⟨G, HG⟩ : ∃ G, Hid ((refW (bl s)).getD 0 = G) := ⟨(refW (bl s)).getD 0, rfl⟩
  obtain ⟨B, HB⟩ : ∃ B, Hid ((refW (bl s)).isSome = B) := ⟨(refW (bl s)).isSome, rfl⟩
  have HS := Lib.hid (show s.size ≤ 281474976710656 by omega)
  go_enter Tryd.func5, Tryd.ntmps5
  go_wp2_with fail
  refine (whole_any _ s HS.out L).mono ?_
  rw [HG.out, HB.out]
  rintro e w1 ⟨rfl, f1⟩
  go_wp2_with fail
  refine (rWhole_any _ s).mono ?_
  rw [HG.out, HB.out]
  rintro e w2 ⟨rfl, h2⟩
  have f2 : Fr [] w w2 := by rw [h2]; exact f1
  clear h2 f1
  go_wp2_with fail
  refine (awake_any _ (L.kept f2)).mono ?_
  rintro e w7 ⟨rfl, f7⟩
  go_wp2_with fail
  go_ret
  exact ⟨by simp, f2.trans f7⟩

end Go.Proofs.YthaekjolbjmjfaaDoor
