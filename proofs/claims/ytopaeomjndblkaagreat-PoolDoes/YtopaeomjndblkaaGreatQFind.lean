/-
  The records that bytes begin with: the program's find, where there is none, or one.
-/
import Derived.Test.YtopaeomjndblkaaGreatQDev
namespace Go.Proofs.YtopaeomjndblkaaGreat
open Go.RowKit Go.Maps

theorem decR_nil : decR [] = none := by unfold decR; rw [if_pos (by simp)]

set_option maxHeartbeats 400000 in
set_option maxRecDepth 100000 in
theorem find_zero (w : World) (p : Nat) (x : Lg) (hx : LBox w p x) (h0 : 1 ≤ x.oldest) (h1 : x.oldest ≤ 4611686018427387904) :
    Calls Tryz.prog 175 #[.pointer (some ⟨p, 0, none⟩), .slice none 0 0] w fun e w' => e = .returned (.tuple #[]) ∧ LBox w' p { x with by' := .slice none 0 0, fin := x.oldest, safe := x.oldest } ∧ Fr [p] w w' := by
  have c4 := hx.c4
  have hw := wrapI x.oldest (by omega) (by omega)
  go_enter Tryz.func175, Tryz.ntmps175
  go_wp2
  go_loopw [4, 5] (fun s4 s5 wr => s4 = .int .i64 0 ∧ s5 = .int .i64 1 ∧ wr = w) (fun _ _ _ => 0)
  case atStart => exact ⟨rfl, rfl, rfl⟩
  case round =>
    obtain ⟨rfl, rfl, hwr⟩ := hrel
    subst hwr
    go_wp2_with fail
    refine (get_any _ none 0 0 [] rfl (by omega) (by omega) (BytesAt.nil _ _)).mono ?_
    rintro e w2 hG
    rcases hG with ⟨-, rfl, f2⟩ | ⟨r, n, s, hd, -⟩
    · unfold recV zeroR zeroS
      go_wp2_with fail
      have f3 := f2.alloc (.cells #[.int .i64 0, .int .i64 0, .int .u8 ((0 : Nat) : Int), .int .i64 0, .int .i64 0, .int .i64 0, .int .i64 0, .int .i64 0, .slice none ([] : List UInt8).length 0, .slice none ([] : List UInt8).length 0] 192)
      generalize hw3 : w2.alloc _ = w3 at f3 ⊢
      clear hw3
      go_quiet (fail)
      have f4 := f3.drewN nq
      generalize w3.drewN nq = w4 at f4 ⊢
      have L4 := hx.kept f4 (by simp)
      go_wp2_with fail
      refine (copied_any w4 none 0 0 [] rfl (BytesAt.nil _ _) (by omega)).mono ?_
      rintro e w5 ⟨ad, rfl, cp, f5⟩
      have had : ad = none := by
        cases ad with
        | none => rfl
        | some a => obtain ⟨_, _, _, _, h⟩ := cp.at' a rfl; simp at h
      subst had
      have L5 := L4.kept f5 (by simp)
      have F5 := f4.trans f5
      have k7 := L5.c7
      have z7 := L5.fz 7
      have L6 := L5.s7 (.slice none 0 0)
      have k4 := L6.c4
      have k6 := L6.c6
      have z6 := L6.fz 6
      have L7 := L6.s6 x.oldest
      have k66 := L7.c6
      have k5 := L7.c5
      have z5 := L7.fz 5
      go_wp2_with fail
      refine bodyPost_end (results_none Tryz.results175 _ _ _) rfl ⟨rfl, L7.s5 x.oldest, ?_⟩
      exact (((F5.mono (M := [p]) (fun _ _ e => nomatch e)).trans (fr_set _ p 7 _)).trans (fr_set _ p 6 _)).trans (fr_set _ p 5 _)
    · rw [decR_nil] at hd; cases hd

end Go.Proofs.YtopaeomjndblkaaGreat
