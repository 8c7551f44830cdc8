/-
  Begins.
-/
import Derived.Test.YtddcilmeignlmaaGreatDoorOrder
import Derived.Laws.StructEq
namespace Go.Proofs.YtddcilmeignlmaaGreatDoor
open Go.RowKit Go.Lib

theorem toList_bl (s : ByteArray) : s.toList = bl s := ByteArray.toList_eq s
theorem bl_inj {s t : ByteArray} (h : bl s = bl t) : s = t := by rw [← mkS_bl s, ← mkS_bl t, h]

set_option maxHeartbeats 2000000 in
set_option maxRecDepth 100000 in
theorem begins_in (w : World) (s t : ByteArray) (n m : Nat) (r q : List Bool) (h : Rep s n r) (k : Rep t m q) (hm : m ≤ n) :
    Calls Tryz.prog 40 #[bv s n, bv t m] w fun e w' => e = .returned (.bool (r.take m == q)) ∧ Fr [] w w' := by
  have bA : Box ((w.alloc (.cells #[.string s, .int .i64 (n : Int)] 43)).alloc (.cells #[.string t, .int .i64 (m : Int)] 43)) w.heap.size s n := (Box.new w s n).kept ((Fr.refl [] _).alloc _) (by simp)
  have bB : Box ((w.alloc (.cells #[.string s, .int .i64 (n : Int)] 43)).alloc (.cells #[.string t, .int .i64 (m : Int)] 43)) (w.heap.size + 1) t m := by simpa using Box.new (w.alloc (.cells #[.string s, .int .i64 (n : Int)] 43)) t m
  have f1 : Fr [] w ((w.alloc (.cells #[.string s, .int .i64 (n : Int)] 43)).alloc (.cells #[.string t, .int .i64 (m : Int)] 43)) := ((Fr.refl _ _).alloc _).alloc _
  by_cases he : r.take m = q
  · have HE : Hid ((r.take m == q) = true) := by show _ = _; simpa using he
    have HE2 : Hid (r.take m = q) := he
    clear he
    go_enter Tryz.func40, Tryz.ntmps40
    go_wp2_with (go_at_call 33; refine (cut_in _ s n 0 m m r h (by omega) hm).mono ?_; rintro e w2 ⟨u, rfl, hu, f2⟩; have hu2 : u = t := (hu.unique (by rw [List.drop_zero, HE2.out]; exact k)).1; subst hu2; have bB2 := (bB.kept f2 (by simp)).kept ((Fr.refl [] w2).alloc (.cells #[.string u, .int .i64 (m : Int)] 43)) (by simp); have q2 := bB2.c0; have q3 := bB2.c1; have g2 := f1.trans f2)
    go_ret
    exact ⟨by rw [HE.out]; rfl, g2.alloc _⟩
  · have HE : Hid ((r.take m == q) = false) := by show _ = _; simpa using he
    go_enter Tryz.func40, Tryz.ntmps40
    go_wp2_with (go_at_call 33; refine (cut_in _ s n 0 m m r h (by omega) hm).mono ?_; rintro e w2 ⟨u, rfl, hu, f2⟩; have hu2 : ¬ u.toList = t.toList := (fun e => he (by have e2 := bl_inj (s := u) (t := t) (by rw [← toList_bl, ← toList_bl]; exact e); subst e2; have := hu.inj k; rwa [List.drop_zero] at this)); have bB2 := (bB.kept f2 (by simp)).kept ((Fr.refl [] w2).alloc (.cells #[.string u, .int .i64 (m : Int)] 43)) (by simp); have q2 := bB2.c0; have q3 := bB2.c1; have g2 := f1.trans f2)
    go_ret
    exact ⟨by rw [HE.out]; rfl, g2.alloc _⟩

set_option maxHeartbeats 2000000 in
set_option maxRecDepth 100000 in
theorem begins_out (w : World) (s t : ByteArray) (n m : Nat) (hm : n < m) :
    Calls Tryz.prog 40 #[bv s n, bv t m] w fun e w' => e = .returned (.bool false) ∧ Fr [] w w' := by
  have f1 : Fr [] w ((w.alloc (.cells #[.string s, .int .i64 (n : Int)] 43)).alloc (.cells #[.string t, .int .i64 (m : Int)] 43)) := ((Fr.refl _ _).alloc _).alloc _
  go_enter Tryz.func40, Tryz.ntmps40
  go_wp2_with (go_at_call 33; refine (cut_bad _ s n 0 (m : Int) (by omega)).mono ?_; rintro e w2 ⟨rfl, f2⟩; have g2 := f1.trans f2)
  go_ret
  exact ⟨rfl, g2.alloc _⟩

theorem begins_any (w : World) (s t : ByteArray) (n m : Nat) (r q : List Bool) (h : Rep s n r) (k : Rep t m q) :
    Calls Tryz.prog 40 #[bv s n, bv t m] w fun e w' => e = .returned (.bool (r.take m == q)) ∧ Fr [] w w' := by
  by_cases hm : m ≤ n
  · exact begins_in w s t n m r q h k hm
  · have : (r.take m == q) = false := by
      rw [beq_eq_false_iff_ne]
      intro e
      have := congrArg List.length e
      rw [List.length_take, h.len, k.len] at this
      omega
    rw [this]
    exact begins_out w s t n m (by omega)

end Go.Proofs.YtddcilmeignlmaaGreatDoor
