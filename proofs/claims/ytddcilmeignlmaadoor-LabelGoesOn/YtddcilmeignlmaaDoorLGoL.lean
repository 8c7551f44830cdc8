/-
  LabelGoesOn, where there is nothing to go through.
-/
import Derived.Test.YtddcilmeignlmaaDoorLCopy
namespace Go.Proofs.YtddcilmeignlmaaDoor
open Go.RowKit Go.Maps Go.Lib

set_option maxHeartbeats 2000000 in
set_option maxRecDepth 100000 in
theorem goesOn_long1 (w : World) (hL : Laid w) (ad pa : Option Addr) (n c pn pc : Nat) (hn : 200 < n) :
    Calls Tryd.prog 4 #[.slice ad n c, .slice pa pn pc] w fun e w' => e = .returned (.bool true) ∧ Fr [] w w' := by
  have hn' : (200 : Int) < (n : Int) := by omega
  go_enter Tryd.func4, Tryd.ntmps4
  go_wp2_with fail
  refine (awake_any _ hL).mono ?_
  rintro e w1 ⟨rfl, f1⟩
  go_wp2_with fail
  go_ret
  exact ⟨rfl, f1⟩

set_option maxHeartbeats 2000000 in
set_option maxRecDepth 100000 in
theorem goesOn_long2 (w : World) (hL : Laid w) (ad pa : Option Addr) (n c pn pc : Nat) (hn : n ≤ 200) (hp : 300 < pn) :
    Calls Tryd.prog 4 #[.slice ad n c, .slice pa pn pc] w fun e w' => e = .returned (.bool true) ∧ Fr [] w w' := by
  have hn' : (n : Int) ≤ 200 := by omega
  have hp' : (300 : Int) < (pn : Int) := by omega
  go_enter Tryd.func4, Tryd.ntmps4
  go_wp2_with fail
  refine (awake_any _ hL).mono ?_
  rintro e w1 ⟨rfl, f1⟩
  go_wp2_with fail
  go_ret
  exact ⟨rfl, f1⟩

set_option maxHeartbeats 2000000 in
set_option maxRecDepth 100000 in
theorem goesOn_no (w : World) (hL : Laid w) (ad pa : Option Addr) (n c pn pc : Nat) (l : List UInt8) (hno : ∀ ss, ¬ Lab l ss) (hl : l.length = n) (hb : BytesAt w ad l) (hpl : Plain ad) (hn : n ≤ 200) (hp : pn ≤ 300) :
    Calls Tryd.prog 4 #[.slice ad n c, .slice pa pn pc] w fun e w' => e = .returned (.bool true) ∧ Fr [] w w' := by
  have hn' : (n : Int) ≤ 200 := by omega
  have hp' : (pn : Int) ≤ 300 := by omega
  have HNO := Lib.hid hno
  have HLn := Lib.hid hl
  clear hno hl
  go_enter Tryd.func4, Tryd.ntmps4
  go_wp2_with fail
  refine (awake_any _ hL).mono ?_
  rintro e w1 ⟨rfl, f1⟩
  go_wp2_with fail
  refine (right_no _ ad n c l HNO.out HLn.out (hb.kept f1 (by simp)) hpl (by omega)).mono ?_
  rintro e w2 ⟨rfl, f2⟩
  go_wp2_with fail
  go_ret
  exact ⟨rfl, f1.trans f2⟩

end Go.Proofs.YtddcilmeignlmaaDoor
