/-
  KeyInts, KeyRows, KeyWholes: the walks.
-/
import Derived.Test.YthaekjolbjmjfaaDoorKAwake
import Derived.Test.YthaekjolbjmjfaaDoorKRef
import Derived.Test.YthaekjolbjmjfaaDoorKRefW
namespace Go.Proofs.YthaekjolbjmjfaaDoor
open Go.RowKit Go.Maps

theorem rPutBytes_out (w : World) (ad : Option Addr) (n c k : Nat) (l : List UInt8) (hl : l.length = n) (hb : BytesAt w ad l) (hn : n ≤ 40000) (hk : (putB l).length = k) :
    Calls Tryd.prog 18 #[.slice ad n c] w fun e w' => ∃ ad' cap, e = .returned (.slice ad' k cap) ∧ Own w w' (.slice ad' k cap) k (arr (putB l)).toList :=
  (rPutBytes_any w ad n c l hl hb hn).mono fun e w' ⟨v, he, o⟩ => by
    obtain ⟨ad', cap, rfl⟩ := o.out
    subst hk
    exact ⟨ad', cap, he, o⟩
theorem rGetBytes_out (w : World) (ad : Option Addr) (n c k : Nat) (l : List UInt8) (hl : l.length = n) (hb : BytesAt w ad l) (hn : n ≤ 100000) (hk : (rowGot (getB l)).length = k) :
    Calls Tryd.prog 16 #[.slice ad n c] w fun e w' => ∃ ad' cap, e = .returned (.tuple #[.slice ad' k cap, .int .i64 (lenGot (getB l)), .bool (getB l).isSome]) ∧ Own w w' (.slice ad' k cap) k (arr (rowGot (getB l))).toList :=
  (rGetBytes_any w ad n c l hl hb hn).mono fun e w' ⟨v, he, o⟩ => by
    obtain ⟨ad', cap, rfl⟩ := o.out
    subst hk
    exact ⟨ad', cap, he, o⟩
theorem rPutInt_out (w : World) (n : Int) (u : Nat) (hu : n + 9223372036854775808 = (u : Int)) (hu1 : u < 18446744073709551616) :
    Calls Tryd.prog 14 #[.int .i64 n] w fun e w' => ∃ ad cap, e = .returned (.slice ad 8 cap) ∧ Own w w' (.slice ad 8 cap) 8 (arr (be 8 u)).toList :=
  (rPutInt_any w n u hu hu1).mono fun e w' ⟨v, he, o⟩ => by
    obtain ⟨ad', cap, rfl⟩ := o.out
    exact ⟨ad', cap, he, o⟩

/-- What GetInt answers. -/
theorem getInt_ex (l : List UInt8) (n : Nat) (hl : l.length = n) (hm : n < 9223372036854775808) : ∃ (x k : Int) (ok : Bool), ∀ (w : World) (ad : Option Addr) (c : Nat), BytesAt w ad l →
    Calls Tryd.prog 10 #[.slice ad n c] w (fun e w' => e = .returned (.tuple #[.int .i64 x, .int .i64 k, .bool ok]) ∧ Fr [] w w') ∧
    Calls Tryd.prog 11 #[.slice ad n c] w (fun e w' => e = .returned (.tuple #[.int .i64 x, .int .i64 k, .bool ok]) ∧ Fr [] w w') := by
  by_cases h : 8 ≤ n
  · exact ⟨(ofBe (l.take 8) : Int) - 9223372036854775808, 8, true, fun w ad c hb => ⟨(getInt_any w ad n c l hl hb h hm).mono fun e w' ⟨he, hw⟩ => ⟨he, by rw [hw]; exact Fr.refl _ _⟩, (rGetInt_any w ad n c l hl hb h hm).mono fun e w' ⟨he, hw⟩ => ⟨he, by rw [hw]; exact Fr.refl _ _⟩⟩⟩
  · exact ⟨0, 0, false, fun w ad c hb => ⟨(getInt_few w ad n c (by omega)).mono fun e w' ⟨he, hw⟩ => ⟨he, by rw [hw]; exact Fr.refl _ _⟩, (rGetInt_few w ad n c (by omega)).mono fun e w' ⟨he, hw⟩ => ⟨he, by rw [hw]; exact Fr.refl _ _⟩⟩⟩

set_option maxHeartbeats 2000000 in
set_option maxRecDepth 100000 in
theorem keyInts_long (w : World) (L : LaidW w) (x : Int) (ad : Option Addr) (n c : Nat) (hn : 20000 < n) :
    Calls Tryd.prog 3 #[.int .i64 x, .slice ad n c] w fun e w' => e = .returned (.bool true) ∧ Fr [] w w' := by
  have hn' : (20000 : Int) < (n : Int) := by omega
  go_enter Tryd.func3, Tryd.ntmps3
  go_wp2_with (go_at_call 9; refine (awake_any _ L).mono ?_; rintro e w1 ⟨rfl, f1⟩)
  go_ret
  exact ⟨rfl, f1⟩

set_option maxHeartbeats 2000000 in
set_option maxRecDepth 100000 in
theorem keyInts_law (w : World) (L : LaidW w) (x : Int) (hx0 : -9223372036854775808 ≤ x) (hx1 : x ≤ 9223372036854775807) (ad : Option Addr) (n c : Nat) (l : List UInt8) (hl : l.length = n) (hb : BytesAt w ad l) (hn : n ≤ 20000) :
    Calls Tryd.prog 3 #[.int .i64 x, .slice ad n c] w fun e w' => e = .returned (.bool true) ∧ Fr [] w w' := by
  have hn' : (n : Int) ≤ 20000 := by omega
  have hn2 : ¬ (20000 : Int) < (n : Int) := by omega
  obtain ⟨y, k, ok, hG⟩ := getInt_ex l n hl (by omega)
  have HG := Lib.hid hG
  have HL := Lib.hid hl
  have HX := Lib.hid (show x + 9223372036854775808 = ((x + 9223372036854775808).toNat : Int) by omega)
  have HX1 := Lib.hid (show (x + 9223372036854775808).toNat < 18446744073709551616 by omega)
  clear hG hl hx0 hx1
  go_enter Tryd.func3, Tryd.ntmps3
  go_wp2_with fail
  refine (HG.out _ _ _ hb).1.mono ?_
  rintro e w1 ⟨rfl, f1⟩
  go_wp2_with fail
  refine (HG.out _ _ _ (hb.kept f1 (by simp))).2.mono ?_
  rintro e w2 ⟨rfl, f2⟩
  replace f2 := f1.trans f2
  go_wp2_with fail
  refine (putInt_out _ x _ HX.out HX1.out).mono ?_
  rintro e w3 ⟨ad3, cap3, rfl, o3⟩
  go_wp2_with fail
  refine (rPutInt_out _ x _ HX.out HX1.out).mono ?_
  rintro e w4 ⟨ad4, cap4, rfl, o4⟩
  go_wp2_with fail
  refine (aw_same _ _ _ 8 _ _ _ o4.len (o3.bytes.kept o4.2 (by simp)) o4.bytes (by omega)).mono ?_
  rintro e w5 ⟨rfl, f5⟩
  replace f5 := ((f2.trans o3.2).trans o4.2).trans f5
  clear o3 o4 f1 f2
  go_wp2_with fail
  refine (awake_any _ (L.kept f5)).mono ?_
  rintro e w6 ⟨rfl, f6⟩
  go_wp2_with fail
  go_ret
  exact ⟨by simp, f5.trans f6⟩

end Go.Proofs.YthaekjolbjmjfaaDoor
