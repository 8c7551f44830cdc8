/-
  The chapter's examples.
-/
import Derived.Test.YthaekjolbjmjfaaDoorWhole
namespace Go.Proofs.YthaekjolbjmjfaaDoor
open Go.RowKit Go.Maps

/-- New memory with these bytes, written out. -/
theorem Own.out {w0 w : World} {v : Value} {n : Nat} {xs : List Value} (h : Own w0 w v n xs) : ∃ ad cap, v = .slice ad n cap := by
  rcases h.1.2 with ⟨e, e2⟩ | ⟨g, cap, cur, e, _⟩
  · exact ⟨none, 0, by rw [e, e2]⟩
  · exact ⟨_, _, e⟩
theorem Own.bytes {w0 w : World} {ad : Option Addr} {n cap : Nat} {l : List UInt8} (h : Own w0 w (.slice ad n cap) n (arr l).toList) : BytesAt w ad l := by
  intro j u hu
  have hlen : (arr l).toList.length = n := by have := h.1.1; omega
  have hj : j < n := by have := (List.getElem?_eq_some_iff.1 hu).1; omega
  rcases h.1.2 with ⟨e, e2⟩ | ⟨g, c, cur, e, _, hg, hnc, _, hcs, ht⟩
  · omega
  · cases e
    refine ⟨g, 0, rfl, ?_⟩
    rw [Nat.zero_add, cell_of_row w g j _ _ _ hg]
    rw [← ht, List.getElem?_take, if_pos (by omega)] at hu
    simpa using hu
theorem Own.len {w0 w : World} {v : Value} {n : Nat} {l : List UInt8} (h : Own w0 w v n (arr l).toList) : l.length = n := by
  have := h.1.1
  simp [arr] at this
  omega

theorem putBytes_out (w : World) (ad : Option Addr) (n c k : Nat) (l : List UInt8) (hl : l.length = n) (hb : BytesAt w ad l) (hn : n ≤ 40000) (hk : (putB l).length = k) :
    Calls Tryd.prog 17 #[.slice ad n c] w fun e w' => ∃ ad' cap, e = .returned (.slice ad' k cap) ∧ Own w w' (.slice ad' k cap) k (arr (putB l)).toList :=
  (putBytes_any w ad n c l hl hb hn).mono fun e w' ⟨v, he, o⟩ => by
    obtain ⟨ad', cap, rfl⟩ := o.out
    subst hk
    exact ⟨ad', cap, he, o⟩
theorem getBytes_out (w : World) (ad : Option Addr) (n c k : Nat) (l : List UInt8) (hl : l.length = n) (hb : BytesAt w ad l) (hn : n ≤ 100000) (hk : (rowGot (getB l)).length = k) :
    Calls Tryd.prog 15 #[.slice ad n c] w fun e w' => ∃ ad' cap, e = .returned (.tuple #[.slice ad' k cap, .int .i64 (lenGot (getB l)), .bool (getB l).isSome]) ∧ Own w w' (.slice ad' k cap) k (arr (rowGot (getB l))).toList :=
  (getBytes_any w ad n c l hl hb hn).mono fun e w' ⟨v, he, o⟩ => by
    obtain ⟨ad', cap, rfl⟩ := o.out
    subst hk
    exact ⟨ad', cap, he, o⟩
theorem putInt_out (w : World) (n : Int) (u : Nat) (hu : n + 9223372036854775808 = (u : Int)) (hu1 : u < 18446744073709551616) :
    Calls Tryd.prog 13 #[.int .i64 n] w fun e w' => ∃ ad cap, e = .returned (.slice ad 8 cap) ∧ Own w w' (.slice ad 8 cap) 8 (arr (be 8 u)).toList :=
  (putInt_any w n u hu hu1).mono fun e w' ⟨v, he, o⟩ => by
    obtain ⟨ad', cap, rfl⟩ := o.out
    exact ⟨ad', cap, he, o⟩

theorem lit_src (w : World) (l : List UInt8) (vs : Array Value) (h : vs = arr l) : BytesAt (w.alloc (.cells vs 5)) (some ⟨w.heap.size, 0, none⟩) l := by
  subst h
  exact Blk.bytes (l := l) (heap_alloc_new _ _)
theorem frA (w : World) (o : Obj) : Fr [] w (w.alloc o) := (Fr.refl _ _).alloc _

theorem aw_get (w : World) (ad : Option Addr) (c : Nat) (hb : BytesAt w ad [0, 0, 7]) :
    Calls Tryd.prog 15 #[.slice ad 3 c] w fun e w' => ∃ ad' cap, e = .returned (.tuple #[.slice ad' 0 cap, .int .i64 2, .bool true]) ∧ Fr [] w w' :=
  (getBytes_out w ad 3 c 0 [0, 0, 7] rfl hb (by omega) rfl).mono fun e w' ⟨ad', cap, he, o⟩ => ⟨ad', cap, he, o.2⟩
theorem aw_whole (w : World) (L : LaidW w) :
    Calls Tryd.prog 19 #[.string ⟨#[45, 53]⟩] w fun e w' => e = .returned (.tuple #[.int .i64 (-5), .bool true]) ∧ Fr [] w w' :=
  (whole_any w ⟨#[45, 53]⟩ (by decide) L).mono fun e w' ⟨he, f⟩ => ⟨by
    have h : refW (bl ⟨#[45, 53]⟩) = some (-5) := by decide
    rw [h] at he
    exact he, f⟩
theorem aw_getInt (w : World) (ad : Option Addr) (c : Nat) (hb : BytesAt w ad [128, 0, 0, 0, 0, 0, 0, 2, 9]) :
    Calls Tryd.prog 10 #[.slice ad 9 c] w fun e w' => e = .returned (.tuple #[.int .i64 2, .int .i64 8, .bool true]) ∧ Fr [] w w' :=
  (getInt_any w ad 9 c [128, 0, 0, 0, 0, 0, 0, 2, 9] rfl hb (by omega) (by omega)).mono fun e w' ⟨he, f⟩ => ⟨he, by rw [f]; exact Fr.refl _ _⟩
theorem aw_putInt (w : World) :
    Calls Tryd.prog 13 #[.int .i64 (-1)] w fun e w' => ∃ ad cap, e = .returned (.slice ad 8 cap) ∧ BytesAt w' ad [127, 255, 255, 255, 255, 255, 255, 255] ∧ Fr [] w w' :=
  (putInt_out w (-1) 9223372036854775807 (by omega) (by omega)).mono fun e w' ⟨ad, cap, he, o⟩ => ⟨ad, cap, he, o.bytes, o.2⟩
theorem aw_putB (w : World) (ad : Option Addr) (c : Nat) (hb : BytesAt w ad [1, 0, 2]) :
    Calls Tryd.prog 17 #[.slice ad 3 c] w fun e w' => ∃ ad' cap, e = .returned (.slice ad' 6 cap) ∧ BytesAt w' ad' [1, 0, 255, 2, 0, 0] ∧ Fr [] w w' :=
  (putBytes_out w ad 3 c 6 [1, 0, 2] rfl hb (by omega) rfl).mono fun e w' ⟨ad, cap, he, o⟩ => ⟨ad, cap, he, o.bytes, o.2⟩
theorem aw_same (w : World) (a1 a2 : Option Addr) (n c1 c2 : Nat) (l : List UInt8) (hn : l.length = n) (h1 : BytesAt w a1 l) (h2 : BytesAt w a2 l) (hm : n ≤ 1000000) :
    Calls Tryd.prog 12 #[.slice a1 n c1, .slice a2 n c2] w fun e w' => e = .returned (.bool true) ∧ Fr [] w w' :=
  (same_any w a1 a2 l l n c1 c2 h1 h2 hn hn hm).mono fun e w' ⟨he, f⟩ => ⟨by simpa using he, f⟩

set_option maxHeartbeats 2000000 in
set_option maxRecDepth 100000 in
theorem awake_any (w : World) (L : LaidW w) : Calls Tryd.prog 9 #[] w fun e w' => e = .returned (.bool true) ∧ Fr [] w w' := by
  go_enter Tryd.func9, Tryd.ntmps9
  go_wp2_with (first
    | (go_at_call 15; refine (aw_get _ _ _ (lit_src _ _ _ rfl)).mono ?_; rintro e w1 ⟨ad1, cap1, rfl, f1⟩; replace f1 := (frA w _).trans f1)
    | (go_at_call 19; refine (aw_whole _ (L.kept f1)).mono ?_; rintro e w2 ⟨rfl, f2⟩; replace f2 := f1.trans f2))
  refine (aw_getInt _ _ _ (lit_src _ _ _ rfl)).mono ?_
  rintro e w3 ⟨rfl, f3⟩
  replace f3 := (f2.trans (frA _ _)).trans f3
  clear f1 f2
  go_wp2_with fail
  refine (aw_putInt _).mono ?_
  rintro e w4 ⟨ad4, cap4, rfl, b4, f4⟩
  replace f4 := f3.trans f4
  go_wp2_with fail
  refine (aw_same _ _ _ 8 _ _ _ rfl (b4.kept (frA _ _) (by simp)) (lit_src _ _ _ rfl) (by omega)).mono ?_
  rintro e w5 ⟨rfl, f5⟩
  replace f5 := (f4.trans (frA _ _)).trans f5
  go_wp2_with fail
  refine (aw_putB _ _ _ (lit_src _ _ _ rfl)).mono ?_
  rintro e w6 ⟨ad6, cap6, rfl, b6, f6⟩
  replace f6 := (f5.trans (frA _ _)).trans f6
  go_wp2_with fail
  refine (aw_same _ _ _ 6 _ _ _ rfl (b6.kept (frA _ _) (by simp)) (lit_src _ _ _ rfl) (by omega)).mono ?_
  rintro e w7 ⟨rfl, f7⟩
  replace f7 := (f6.trans (frA _ _)).trans f7
  clear f3 f4 f5 f6 b4 b6
  go_wp2_with fail
  go_ret
  exact ⟨rfl, f7⟩

end Go.Proofs.YthaekjolbjmjfaaDoor
