/-
  Keys: Whole, over the library's ParseInt and FormatInt, where the library's variables are laid.
-/
import Derived.Test.YthaekjolbjmjfaaDoorKey
import Derived.Test.YthaekjolbjmjfaaDoorKWMath
import Derived.Test.YthaekjolbjmjfaaDoorShelf
import Derived.WalkSmall
import Derived.Lib.ParseIntBTie
namespace Go.Proofs.YthaekjolbjmjfaaDoor
open Go.RowKit Go.Maps

/-- What the library's variables hold, as the program's text lays them. -/
structure LaidW (w : World) : Prop where
  tab : Lib.TabIs Tryd.prog w "internal/strconv.uint64pow10" .u64 Lib.pow10Tab
  syn : ∃ tp p, w.var? Tryd.prog "strconv.ErrSyntax" = some #[.iface tp p]
  rng : ∃ tp p, w.var? Tryd.prog "strconv.ErrRange" = some #[.iface tp p]

theorem gSyn : Tryd.prog.globalNamed "strconv.ErrSyntax" = some 0 := by kernel_rfl
theorem gRng : Tryd.prog.globalNamed "strconv.ErrRange" = some 1 := by kernel_rfl
theorem gTab : Tryd.prog.globalNamed "internal/strconv.uint64pow10" = some 2 := by kernel_rfl
theorem var_lt {w : World} {n : String} {g : Nat} {v : Value} {cs : List Value} (hg : Tryd.prog.globalNamed n = some g) (h : w.var? Tryd.prog n = some (v :: cs).toArray) : g < w.heap.size := by
  have := World.var?_cell hg h 0
  simp at this
  exact block_lt_of_cell this
theorem fr_below {w w' : World} (f : Fr [] w w') : Below w.heap.size w w' := f.below (Nat.le_refl _) (fun _ h => nomatch h)
theorem below_fr {w w' : World} (b : Below w.heap.size w w') : Fr [] w w' := ⟨b.os, b.tape, b.output, b.size, fun k hk _ => b.block k hk⟩
theorem LaidW.kept {w w' : World} (h : LaidW w) (f : Fr [] w w') : LaidW w' := by
  have hb := fr_below f
  refine ⟨?_, ?_, ?_⟩
  · exact var?_below hb gTab (var_lt (v := .int .u64 1) gTab h.tab) h.tab
  · obtain ⟨tp, p, e⟩ := h.syn
    exact ⟨tp, p, var?_below hb gSyn (var_lt (cs := []) gSyn e) e⟩
  · obtain ⟨tp, p, e⟩ := h.rng
    exact ⟨tp, p, var?_below hb gRng (var_lt (cs := []) gRng e) e⟩

theorem grow_fr {w w' : World} (f : Fr [] w w') (k : Nat) (os : Array Obj) : Fr [] w (Sort.grow (w'.drewN k) os) :=
  (f.drewN k).trans ⟨rfl, rfl, rfl, by simp [Sort.grow], fun i hi _ => by simp only [Sort.grow]; exact Array.getElem?_append_left hi⟩
theorem bw_fr {w w' : World} (h : w' = w ∨ ∃ t, w' = Lib.bytesWorld w 5 t) : Fr [] w w' := by
  rcases h with rfl | ⟨t, rfl⟩
  · exact Fr.refl _ _
  · exact below_fr (Lib.bytesWorld_below _ _ _)

theorem bytes_list (s : ByteArray) : s.toList = bl s := by
  have := ByteArray.toList_eq s
  exact this

set_option maxHeartbeats 1000000 in
set_option maxRecDepth 100000 in
theorem whole_ok (w : World) (s : ByteArray) (hs : s.size ≤ 281474976710656) (L : LaidW w) (v : Int) (h : Lib.parseIntB 64 s.data.toList = .ok v) (h0 : -9223372036854775808 ≤ v) (h1 : v ≤ 9223372036854775807) (he : (Lib.itoa v == s.toList) = true) :
    Calls Tryd.prog 19 #[.string s] w fun e w' => e = .returned (.tuple #[.int .i64 v, .bool true]) ∧ Fr [] w w' := by
  go_enter Tryd.func19, Tryd.ntmps19
  go_wp2_with (first
    | (go_at_call 27; refine (Tryd.strconv_ParseInt_10_at64_ok s (by omega) v h _).mono ?_; rintro e w1 ⟨rfl, hW⟩; have f1 := bw_fr hW; clear hW)
    | (go_at_call 28; refine (Tryd.strconv_FormatInt_10 v h0 h1 _ (L.kept f1).tab).mono ?_; rintro e w2 ⟨rfl, kk, os, rfl⟩))
  go_ret2
  exact ⟨rfl, grow_fr f1 kk os⟩

set_option maxHeartbeats 1000000 in
set_option maxRecDepth 100000 in
theorem whole_off (w : World) (s : ByteArray) (hs : s.size ≤ 281474976710656) (L : LaidW w) (v : Int) (h : Lib.parseIntB 64 s.data.toList = .ok v) (h0 : -9223372036854775808 ≤ v) (h1 : v ≤ 9223372036854775807) (he : (Lib.itoa v == s.toList) = false) :
    Calls Tryd.prog 19 #[.string s] w fun e w' => e = .returned (.tuple #[.int .i64 0, .bool false]) ∧ Fr [] w w' := by
  go_enter Tryd.func19, Tryd.ntmps19
  go_wp2_with (first
    | (go_at_call 27; refine (Tryd.strconv_ParseInt_10_at64_ok s (by omega) v h _).mono ?_; rintro e w1 ⟨rfl, hW⟩; have f1 := bw_fr hW; clear hW)
    | (go_at_call 28; refine (Tryd.strconv_FormatInt_10 v h0 h1 _ (L.kept f1).tab).mono ?_; rintro e w2 ⟨rfl, kk, os, rfl⟩))
  go_ret2
  exact ⟨rfl, grow_fr f1 kk os⟩

set_option maxHeartbeats 1000000 in
set_option maxRecDepth 100000 in
/-- Where ParseInt tells an error. -/
theorem whole_err (w : World) (s : ByteArray) (T : TypeId) (sat : Int) (hI : Calls Tryd.prog 27 #[.string s, .int .i64 10, .int .i64 64] w fun e w' => ∃ N, e = .returned (.tuple #[.int .i64 sat, .iface T (.pointer (some ⟨N, 0, none⟩))]) ∧ Fr [] w w') :
    Calls Tryd.prog 19 #[.string s] w fun e w' => e = .returned (.tuple #[.int .i64 0, .bool false]) ∧ Fr [] w w' := by
  go_enter Tryd.func19, Tryd.ntmps19
  go_wp2_with (go_at_call 27; refine hI.mono ?_; rintro e w1 ⟨N, rfl, hW⟩)
  go_ret2
  exact ⟨rfl, hW⟩

theorem whole_any (w : World) (s : ByteArray) (hs : s.size ≤ 281474976710656) (L : LaidW w) :
    Calls Tryd.prog 19 #[.string s] w fun e w' => e = .returned (.tuple #[.int .i64 ((refW (bl s)).getD 0), .bool (refW (bl s)).isSome]) ∧ Fr [] w w' := by
  obtain ⟨tp0, p0, hv0⟩ := L.syn
  obtain ⟨tp1, p1, hv1⟩ := L.rng
  cases h : Lib.parseIntB 64 s.data.toList
  case ok v =>
    have hb := Lib.parseIntB_bounds h
    have h0 : -9223372036854775808 ≤ v := by have := hb.1; simp at this; omega
    have h1 : v ≤ 9223372036854775807 := by have := hb.2; simp at this; omega
    by_cases e : Lib.itoa v = bl s
    · rw [whole_ref e h0 h1]
      exact whole_ok w s hs L v h h0 h1 (by rw [bytes_list, e]; simp)
    · cases hr : refW (bl s) with
      | none => exact whole_off w s hs L v h h0 h1 (by rw [bytes_list, beq_eq_false_iff_ne]; exact e)
      | some x =>
        obtain ⟨q1, q2⟩ := ref_whole hr
        have q3 : Lib.parseIntB 64 (bl s) = .ok v := h
        rw [q1] at q3
        cases q3
        exact absurd q2 e
  case range =>
    cases hr : refW (bl s) with
    | none => exact whole_err w s _ _ ((Any.strconv_ParseInt_10_at64_range_var Tryd.laysC174 s hs h tp1 p1 w hv1).mono fun e w' ⟨N, he, _, _, hW⟩ => ⟨N, he, below_fr hW⟩)
    | some x =>
      obtain ⟨q1, _⟩ := ref_whole hr
      have q3 : Lib.parseIntB 64 (bl s) = .range := h
      rw [q1] at q3
      cases q3
  · cases hr : refW (bl s) with
    | none => exact whole_err w s _ _ ((Any.strconv_ParseInt_10_at64_syntax_var Tryd.laysC174 s hs h tp0 p0 w hv0).mono fun e w' ⟨N, he, _, _, hW⟩ => ⟨N, he, below_fr hW⟩)
    | some x =>
      obtain ⟨q1, _⟩ := ref_whole hr
      have q3 : Lib.parseIntB 64 (bl s) = _ := h
      rw [q1] at q3
      cases q3

end Go.Proofs.YthaekjolbjmjfaaDoor
