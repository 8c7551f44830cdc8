/-
  Some that are, some that are not.
-/
import Derived.Test.YtmhfbkafcpceiaaDoorCCode
namespace Go.Proofs.YtmhfbkafcpceiaaDoor
open Go.RowKit Go.Maps

theorem aw_char (w : World) (L : LaidC w) (r : Int) (b : Bool) (h : txt r = b) : Calls Tryd.prog 8 #[.int .i32 r] w fun e w' => e = .returned (.bool b) ∧ Fr [] w w' := by
  subst h; exact char_any w L.spans r
theorem aw_start (w : World) (L : LaidC w) (r : Int) (b : Bool) (h : nst r = b) : Calls Tryd.prog 10 #[.int .i32 r] w fun e w' => e = .returned (.bool b) ∧ Fr [] w w' := by
  subst h; exact nameStart_any w L.spans r
theorem aw_nc (w : World) (L : LaidC w) (r : Int) (b : Bool) (h : nch r = b) : Calls Tryd.prog 12 #[.int .i32 r] w fun e w' => e = .returned (.bool b) ∧ Fr [] w w' := by
  subst h; exact nameChar_any w L.spans r
theorem aw_name (w : World) (L : LaidC w) (s : ByteArray) (b : Bool) (h : nameB (bl s) = b) : Calls Tryd.prog 15 #[.string s] w fun e w' => e = .returned (.bool b) ∧ Fr [] w w' := by
  subst h; exact name_any w L s
theorem aw_texts (w : World) (L : LaidC w) (s : ByteArray) (hz : s.size < 140737488355328) (b : Bool) (h : textsB (bl s) = b) : Calls Tryd.prog 17 #[.string s] w fun e w' => e = .returned (.bool b) ∧ Fr [] w w' := by
  subst h; exact texts_any w L s hz
theorem aw_blank (w : World) (s : ByteArray) (hz : s.size < 140737488355328) (b : Bool) (h : blankB (bl s) = b) : Calls Tryd.prog 19 #[.string s] w fun e w' => e = .returned (.bool b) ∧ Fr [] w w' := by
  subst h; exact blank_any w s hz

set_option maxHeartbeats 4000000 in
set_option maxRecDepth 100000 in
theorem awake_any (w : World) (L : LaidC w) : Calls Tryd.prog 14 #[] w fun e w' => e = .returned (.bool true) ∧ Fr [] w w' := by
  have HL : Hid (LaidC w) := L
  clear L
  have g := Fr.refl [] w
  go_enter Tryd.func14, Tryd.ntmps14
  go_wp2_with fail
  refine (aw_char _ (HL.out.kept g) 97 true (by decide)).mono ?_
  rintro e w0 ⟨rfl, f0⟩
  replace g := g.trans f0
  clear f0
  go_wp2_with fail
  refine (aw_char _ (HL.out.kept g) 0 false (by decide)).mono ?_
  rintro e w1 ⟨rfl, f1⟩
  replace g := g.trans f1
  clear f1
  go_wp2_with fail
  refine (aw_start _ (HL.out.kept g) 95 true (by decide)).mono ?_
  rintro e w2 ⟨rfl, f2⟩
  replace g := g.trans f2
  clear f2
  go_wp2_with fail
  refine (aw_start _ (HL.out.kept g) 49 false (by decide)).mono ?_
  rintro e w3 ⟨rfl, f3⟩
  replace g := g.trans f3
  clear f3
  go_wp2_with fail
  refine (aw_nc _ (HL.out.kept g) 49 true (by decide)).mono ?_
  rintro e w4 ⟨rfl, f4⟩
  replace g := g.trans f4
  clear f4
  go_wp2_with fail
  refine (aw_nc _ (HL.out.kept g) 58 false (by decide)).mono ?_
  rintro e w5 ⟨rfl, f5⟩
  replace g := g.trans f5
  clear f5
  go_wp2_with fail
  refine (aw_name _ (HL.out.kept g) ⟨#[120, 45, 121, 46, 122]⟩ true (by decide)).mono ?_
  rintro e w6 ⟨rfl, f6⟩
  replace g := g.trans f6
  clear f6
  go_wp2_with fail
  refine (aw_name _ (HL.out.kept g) ⟨#[]⟩ false (by decide)).mono ?_
  rintro e w7 ⟨rfl, f7⟩
  replace g := g.trans f7
  clear f7
  go_wp2_with fail
  refine (aw_texts _ (HL.out.kept g) ⟨#[]⟩ (by decide) true (by decide)).mono ?_
  rintro e w8 ⟨rfl, f8⟩
  replace g := g.trans f8
  clear f8
  go_wp2_with fail
  refine (aw_texts _ (HL.out.kept g) ⟨#[255]⟩ (by decide) false (by decide)).mono ?_
  rintro e w9 ⟨rfl, f9⟩
  replace g := g.trans f9
  clear f9
  go_wp2_with fail
  refine (aw_blank _ ⟨#[9, 32, 10]⟩ (by decide) true (by decide)).mono ?_
  rintro e w10 ⟨rfl, f10⟩
  replace g := g.trans f10
  clear f10
  go_wp2_with fail
  refine (aw_blank _ ⟨#[97]⟩ (by decide) false (by decide)).mono ?_
  rintro e w11 ⟨rfl, f11⟩
  replace g := g.trans f11
  clear f11
  go_wp2_with fail
  go_ret
  exact ⟨rfl, g⟩
end Go.Proofs.YtmhfbkafcpceiaaDoor
