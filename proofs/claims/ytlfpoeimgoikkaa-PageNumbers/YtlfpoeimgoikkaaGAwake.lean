/-
  The chapter's first example.
-/
import Derived.Test.YtlfpoeimgoikkaaGDel
import Derived.WalkMore
import Derived.Lib.SmallJoins
namespace Go.Proofs.Ytlfpoeimgoikkaa
open Go.RowKit Go.Maps

def awP : List UInt8 := pgB 7 0 [[97], [98, 99]]
theorem awP_pg : Pg awP 7 0 [[97], [98, 99]] := ⟨rfl, by decide, by decide⟩
theorem awP_take : (awP.drop 0).take 13 = [7, 2, 0, 0, 0, 0, 0, 1, 97, 0, 2, 98, 99] := rfl
theorem SlAt.take {w : World} {g o n c : Nat} {l : List UInt8} (h : SlAt w (some ⟨g, o, none⟩) n c l) (m : Nat) (hm : m ≤ n) : SlAt w (some ⟨g, o, none⟩) m c (l.take m) := by
  refine ⟨by rw [List.length_take, h.len]; omega, ?_, by have := h.cap; omega⟩
  have := h.bytes.sub 0 m
  simpa using this

theorem insert_okI (w : World) (g c : Nat) (l : List UInt8) (k : UInt8) (x : Nat) (cs : List (List UInt8)) (s : Nat) (S : Int) (hS : S = (s : Int)) (ad : Option Addr) (n nc : Nat) (cell : List UInt8) (h : RowB w g c l) (pg : Pg l k x cs) (hs : s ≤ cs.length)
    (hcl : cell.length = n) (hcb : BytesAt w ad cell) (hr : elen cs + 2 + n ≤ 506) :
    Calls Try.prog 24 #[.slice (some ⟨g, 0, none⟩) 512 c, .int .i64 S, .slice ad n nc] w fun r w' => r = .returned (.int .i64 0) ∧ RowB w' g c (pgB k x (insC cs s cell)) ∧ Fr [g] w w' := by
  subst hS
  exact insert_ok w g c l k x cs s ad n nc cell h pg hs hcl hcb hr
theorem get_yesI (w : World) (g o c s : Nat) (S : Int) (hS : S = (s : Int)) (l : List UInt8) (k : UInt8) (x : Nat) (cs : List (List UInt8)) (cell : List UInt8) (m : Nat) (pg : Pg l k x cs) (h : At512 w g o c l) (hs : s < cs.length) (hc : cs[s] = cell) (hm : cell.length = m) :
    Calls Try.prog 12 #[.slice (some ⟨g, o, none⟩) 512 c, .int .i64 S] w fun r w' => ∃ b, r = .returned (.tuple #[.slice (some ⟨b, 0, none⟩) m m, .bool true]) ∧ Blk w' b cell ∧ w.heap.size ≤ b ∧ Fr [] w w' := by
  subst hS hc hm
  exact get_yes w g o c s l k x cs pg h hs
theorem new_anyI (w : World) (k : UInt8) (K : Int) (hK : K = k.toNat) :
    Calls Try.prog 15 #[.int .u8 K] w fun r w' => ∃ g, r = .returned (.slice (some ⟨g, 0, none⟩) 512 512) ∧ Blk w' g (pgB k 0 []) ∧ w.heap.size ≤ g ∧ Fr [] w w' := by
  subst hK
  exact new_any w k
theorem mark_src (w : World) (l : List UInt8) (A : Array Value) (fr : Nat × Nat) (hA : A = arr l) : BytesAt (w.alloc (.cells A 5 fr)) (some ⟨w.heap.size, 0, none⟩) l := by
  subst hA
  intro j v hv
  refine ⟨w.heap.size, 0, rfl, ?_⟩
  rw [Nat.zero_add, World.cell?_alloc_mark, ← hv]
  simp
theorem lit_src (w : World) (l : List UInt8) (A : Array Value) (hA : A = arr l) : BytesAt (w.alloc (.cells A 5)) (some ⟨w.heap.size, 0, none⟩) l := by
  subst hA
  exact Blk.bytes (l := l) (heap_alloc_new _ _)

set_option maxHeartbeats 1000000 in
set_option maxRecDepth 100000 in
theorem awake_any (w : World) : Calls Try.prog 9 #[] w fun r w' => r = .returned (.bool true) ∧ Fr [] w w' := by
  go_enter Try.func9, Try.ntmps9
  go_wp2_with fail
  refine (new_anyI _ 7 7 rfl).mono ?_
  rintro e w1 ⟨g, rfl, b1, hg1, f1⟩
  have r1 : RowB w1 g 512 (pgB 7 0 []) := b1.row
  have hc1 := Joins.run_convert_bytes_const_at (P := Try.prog) w1 22 5 #[.int .u8 98, .int .u8 99] 2 2 _ rfl Try.underlying22 Try.underlying5
  go_wp2_with fail
  refine (insert_okI _ g 512 _ 7 0 [] 0 0 rfl _ 2 2 [98, 99] (r1.kept ((Fr.refl [] _).alloc _) (by simp)) ⟨rfl, by decide, by decide⟩ (by decide) rfl (mark_src _ _ _ _ rfl) (by decide)).mono ?_
  rintro e w2 ⟨rfl, r2, f2⟩
  clear hc1
  have hc2 := Joins.run_convert_bytes_const_at (P := Try.prog) w2 22 5 #[.int .u8 97] 1 1 _ rfl Try.underlying22 Try.underlying5
  go_wp2_with fail
  refine (insert_okI _ g 512 _ 7 0 [[98, 99]] 0 0 rfl _ 1 1 [97] (r2.kept ((Fr.refl [] _).alloc _) (by simp)) ⟨rfl, by decide, by decide⟩ (by decide) rfl (mark_src _ _ _ _ rfl) (by decide)).mono ?_
  rintro e w3 ⟨rfl, r3, f3⟩
  have r3' : RowB w3 g 512 awP := r3
  have s3 := r3'.sl
  rw [awP_pg.len] at s3
  go_wp2_with fail
  refine (get_yesI _ g 0 512 1 1 rfl awP 7 0 _ [98, 99] 2 awP_pg ⟨awP_pg.len, r3'.bytes, by decide⟩ (by decide) rfl rfl).mono ?_
  rintro e w4 ⟨b, rfl, b4, hb4, f4⟩
  have r4 := r3'.kept f4 (by simp)
  go_wp2_with fail
  refine (same_any _ _ _ (awP.take 13) [7, 2, 0, 0, 0, 0, 0, 1, 97, 0, 2, 98, 99] 13 _ _ ((((s3.kept f4 (by simp)).take 13 (by omega)).bytes).kept ((Fr.refl [] _).alloc _) (by simp)) (lit_src _ _ _ rfl) rfl rfl (by omega)).mono ?_
  rintro e w5 ⟨rfl, f5⟩
  rw [show (awP.take 13 == [7, 2, 0, 0, 0, 0, 0, 1, 97, 0, 2, 98, 99]) = true by decide]
  have f45 : Fr [] w4 w5 := ((Fr.refl [] _).alloc _).trans f5
  have r5 := r4.kept f45 (by simp)
  have s5 := r5.sl
  rw [awP_pg.len] at s5
  have hcv : (convert 22 9 (.slice (some ⟨b, 0, none⟩) 2 2)).run Try.prog w5 = .ok (.string ⟨#[98, 99]⟩) w5 := run_conv (w := w5) [98, 99] (some ⟨b, 0, none⟩) 2 2 rfl ((b4.kept f45 (by simp)).bytes) (by simp)
  go_wp2_with fail
  refine (room_any _ _ _ _ awP s5).mono ?_
  rintro e w6 ⟨rfl, rfl⟩
  rw [show roomOf awP = 499 by unfold roomOf; rw [awP_pg.ok, awP_pg.end]; rfl]
  go_wp2_with fail
  refine (check_any _ _ _ _ awP s5).mono ?_
  rintro e w6 ⟨rfl, rfl⟩
  rw [awP_pg.ok]
  go_wp2_with fail
  refine (check_any _ _ _ _ _ (s5.take 511 (by omega))).mono ?_
  rintro e w6 ⟨rfl, rfl⟩
  rw [(okP_none (pageOf_len (awP.take 511) (by rw [List.length_take, awP_pg.len]; omega))).1]
  go_wp2_with fail
  refine (insert_arg _ g 512 awP 7 0 _ 3 _ r5 awP_pg (Or.inr (by decide))).mono ?_
  rintro e w6 ⟨rfl, rfl⟩
  go_wp2_with fail
  go_ret
  exact ⟨rfl, ((((f1.alloc _).then f2 (fun i hi hm => by simp at hm; omega)).alloc _).then f3 (fun i hi hm => by simp at hm; omega)).trans (f4.trans f45)⟩
end Go.Proofs.Ytlfpoeimgoikkaa
