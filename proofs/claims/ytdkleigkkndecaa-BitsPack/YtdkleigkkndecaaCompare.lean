/-
  Compare, Begins.
-/
import Derived.Test.YtdkleigkkndecaaOrder
import Derived.Laws.Externs
import Derived.Laws.StructEq
namespace Go.Proofs.Ytdkleigkkndecaa
open Go.RowKit Go.Lib

theorem run_cmpstring (a b : ByteArray) (w : World) : (callFunc 47 #[.string a, .string b]).run Try.prog w = .ok (.value (.int .i64 (compareBytes (bl a) (bl b)))) w := by
  rw [run_callFunc_extern (P := Try.prog) Try.func47 (by kernel_rfl) (by kernel_rfl) (by kernel_rfl) (e := Extern.BytealgCompare.compare) (by kernel_rfl), run_compareString]
  rfl

set_option maxHeartbeats 1000000 in
theorem compareString_any (w : World) (a b : ByteArray) :
    Calls Try.prog 45 #[.string a, .string b] w fun e w' => e = .returned (.int .i64 (compareBytes (bl a) (bl b))) ∧ w = w' := by
  have h := run_cmpstring a b
  go_enter Try.func45, Try.ntmps45
  go_wp2
  go_ret
  exact ⟨rfl, rfl⟩

set_option maxHeartbeats 1000000 in
theorem strCompare_any (w : World) (a b : ByteArray) :
    Calls Try.prog 42 #[.string a, .string b] w fun e w' => e = .returned (.int .i64 (compareBytes (bl a) (bl b))) ∧ w = w' := by
  go_enter Try.func42, Try.ntmps42
  go_wp2_with (go_at_call 45; refine (compareString_any _ a b).mono ?_; rintro e w5 ⟨rfl, rfl⟩)
  go_ret
  exact ⟨rfl, rfl⟩

set_option maxHeartbeats 1000000 in
theorem isNaN_any (w : World) (x : Int) : Calls Try.prog 46 #[.int .i64 x] w fun e w' => e = .returned (.bool false) ∧ w = w' := by
  go_enter Try.func46, Try.ntmps46
  go_wp2
  go_ret
  exact ⟨by simp, rfl⟩

set_option maxHeartbeats 1000000 in
theorem cmpCompare_any (w : World) (n m : Nat) : Calls Try.prog 43 #[.int .i64 (n : Int), .int .i64 (m : Int)] w fun e w' => e = .returned (.int .i64 (cmpI n m)) ∧ w = w' := by
  unfold cmpI
  rcases Nat.lt_trichotomy n m with h | h | h
  · rw [if_pos h]
    have h' : (n : Int) < (m : Int) := by omega
    go_enter Try.func43, Try.ntmps43
    go_wp2_with (go_at_call 46; refine (isNaN_any _ _).mono ?_; rintro e w5 ⟨rfl, rfl⟩)
    go_ret
    exact ⟨rfl, rfl⟩
  · subst h
    rw [if_neg (Nat.lt_irrefl _), if_neg (Nat.lt_irrefl _)]
    go_enter Try.func43, Try.ntmps43
    go_wp2_with (go_at_call 46; refine (isNaN_any _ _).mono ?_; rintro e w5 ⟨rfl, rfl⟩)
    go_ret
    exact ⟨rfl, rfl⟩
  · rw [if_neg (by omega), if_pos h]
    have h' : ¬ (n : Int) < (m : Int) := by omega
    have h'' : (m : Int) < (n : Int) := by omega
    go_enter Try.func43, Try.ntmps43
    go_wp2_with (go_at_call 46; refine (isNaN_any _ _).mono ?_; rintro e w5 ⟨rfl, rfl⟩)
    go_ret
    exact ⟨rfl, rfl⟩

set_option maxHeartbeats 1000000 in
set_option maxRecDepth 100000 in
theorem cmpOr_any (w : World) (g : Nat) (c d : Int) (c0 : w.cell? ⟨g, 0, none⟩ = some (.int .i64 c)) (c1 : w.cell? ⟨g, 1, none⟩ = some (.int .i64 d)) :
    Calls Try.prog 41 #[.slice (some ⟨g, 0, none⟩) 2 2] w fun e w' => e = .returned (.int .i64 (told c d)) ∧ w = w' := by
  go_enter Try.func41, Try.ntmps41
  go_wp2_with go_in
  go_loopw [8] (fun i wr => w = wr ∧ (i = .int .i64 0 ∨ (i = .int .i64 1 ∧ c = 0) ∨ (i = .int .i64 2 ∧ c = 0 ∧ d = 0))) (fun i _ => 2 - (intOf i).toNat)
  case atStart => exact ⟨rfl, Or.inl rfl⟩
  case round =>
    obtain ⟨hw, hcase⟩ := hrel
    subst hw
    rcases hcase with rfl | ⟨rfl, hc⟩ | ⟨rfl, hc, hd⟩
    · by_cases hc : c = 0
      · subst hc
        go_wp2
        exact ⟨by simp, by simp [intOf]⟩
      · have hb : (c == 0) = false := by simpa using hc
        have hb2 : (c != 0) = true := by simpa using hc
        have ht : Hid (told c d = c) := by show _ = _; unfold told; rw [if_neg hc]
        clear hc
        go_wp2
        go_ret
        exact ⟨by rw [ht.out]; rfl, rfl⟩
    · subst hc
      by_cases hd : d = 0
      · subst hd
        go_wp2
        exact ⟨by simp, by simp [intOf]⟩
      · have hb : (d == 0) = false := by simpa using hd
        have hb2 : (d != 0) = true := by simpa using hd
        have ht : Hid (told 0 d = d) := by show _ = _; unfold told; rw [if_pos rfl]
        clear hd
        go_wp2
        go_ret
        exact ⟨by rw [ht.out]; rfl, rfl⟩
    · subst hc hd
      go_wp2
      go_ret
      exact ⟨rfl, rfl⟩

/-- Two new cells. -/
theorem cells2 (w : World) (t : TypeId) (c d : Value) : (w.alloc (.cells #[c, d] t)).cell? ⟨w.heap.size, 0, none⟩ = some c ∧ (w.alloc (.cells #[c, d] t)).cell? ⟨w.heap.size, 1, none⟩ = some d :=
  ⟨by rw [cell_of_row _ _ _ _ _ _ (heap_alloc_new w _)]; rfl, by rw [cell_of_row _ _ _ _ _ _ (heap_alloc_new w _)]; rfl⟩

set_option maxHeartbeats 1000000 in
set_option maxRecDepth 100000 in
theorem compare_same (w : World) (s : ByteArray) (n : Nat) :
    Calls Try.prog 27 #[bv s n, bv s n] w fun e w' => e = .returned (.int .i64 0) ∧ Fr [] w w' := by
  go_enter Try.func27, Try.ntmps27
  go_wp2
  go_ret
  exact ⟨rfl, ((Fr.refl _ _).alloc _).alloc _⟩

set_option maxHeartbeats 2000000 in
set_option maxRecDepth 100000 in
theorem compare_ne1 (w : World) (s t : ByteArray) (n m : Nat) (h : ¬ s.toList = t.toList) :
    Calls Try.prog 27 #[bv s n, bv t m] w fun e w' => e = .returned (.int .i64 (told (compareBytes (bl s) (bl t)) (cmpI n m))) ∧ Fr [] w w' := by
  have bA : Box ((w.alloc (.cells #[.string s, .int .i64 (n : Int)] 24)).alloc (.cells #[.string t, .int .i64 (m : Int)] 24)) w.heap.size s n := (Box.new w s n).kept ((Fr.refl [] _).alloc _) (by simp)
  have bB : Box ((w.alloc (.cells #[.string s, .int .i64 (n : Int)] 24)).alloc (.cells #[.string t, .int .i64 (m : Int)] 24)) (w.heap.size + 1) t m := by simpa using Box.new (w.alloc (.cells #[.string s, .int .i64 (n : Int)] 24)) t m
  have f1 : Fr [] w ((w.alloc (.cells #[.string s, .int .i64 (n : Int)] 24)).alloc (.cells #[.string t, .int .i64 (m : Int)] 24)) := ((Fr.refl _ _).alloc _).alloc _
  go_enter Try.func27, Try.ntmps27
  go_wp2
  generalize (w.alloc (.cells #[.string s, .int .i64 (n : Int)] 24)).alloc (.cells #[.string t, .int .i64 (m : Int)] 24) = w1 at bA bB f1 ⊢
  have q0 := bA.c0
  have q1 := bA.c1
  have q2 := bB.c0
  have q3 := bB.c1
  have gA := bA.kept ((Fr.refl [] w1).alloc (.cells #[.int .i64 (compareBytes (bl s) (bl t)), .int .i64 (cmpI n m)] 3)) (by simp)
  have gB := bB.kept ((Fr.refl [] w1).alloc (.cells #[.int .i64 (compareBytes (bl s) (bl t)), .int .i64 (cmpI n m)] 3)) (by simp)
  have k0 := gA.c0
  have k1 := gA.c1
  have k2 := gB.c0
  have k3 := gB.c1
  obtain ⟨c0, c1⟩ := cells2 w1 3 (.int .i64 (compareBytes (bl s) (bl t))) (.int .i64 (cmpI n m))
  go_region_held3 (fun w' => w'.cell? ⟨w.heap.size, 0, none⟩ = some (.string s) ∧ w'.cell? ⟨w.heap.size, 1, none⟩ = some (.int .i64 (n : Int)) ∧ w'.cell? ⟨w.heap.size + 1, 0, none⟩ = some (.string t) ∧ w'.cell? ⟨w.heap.size + 1, 1, none⟩ = some (.int .i64 (m : Int))) (first | exact ⟨q0, q1, q2, q3⟩ | exact ⟨k0, k1, k2, k3⟩)
    ((first | (go_at_call 42; refine (strCompare_any _ s t).mono ?_; rintro e w5 ⟨rfl, rfl⟩) | (go_at_call 43; refine (cmpCompare_any _ n m).mono ?_; rintro e w5 ⟨rfl, rfl⟩) | (go_at_call 41; refine (cmpOr_any (w1.alloc (.cells #[.int .i64 (compareBytes (bl s) (bl t)), .int .i64 (cmpI n m)] 3)).drew _ _ _ c0 c1).mono ?_; rintro e w5 ⟨rfl, rfl⟩)))
  all_goals go_wp2
  all_goals (go_ret; exact ⟨rfl, (f1.alloc _).drew⟩)

set_option maxHeartbeats 2000000 in
set_option maxRecDepth 100000 in
theorem compare_ne2 (w : World) (s : ByteArray) (n m : Nat) (h : ¬ (n : Int) = (m : Int)) :
    Calls Try.prog 27 #[bv s n, bv s m] w fun e w' => e = .returned (.int .i64 (told (compareBytes (bl s) (bl s)) (cmpI n m))) ∧ Fr [] w w' := by
  have bA : Box ((w.alloc (.cells #[.string s, .int .i64 (n : Int)] 24)).alloc (.cells #[.string s, .int .i64 (m : Int)] 24)) w.heap.size s n := (Box.new w s n).kept ((Fr.refl [] _).alloc _) (by simp)
  have bB : Box ((w.alloc (.cells #[.string s, .int .i64 (n : Int)] 24)).alloc (.cells #[.string s, .int .i64 (m : Int)] 24)) (w.heap.size + 1) s m := by simpa using Box.new (w.alloc (.cells #[.string s, .int .i64 (n : Int)] 24)) s m
  have f1 : Fr [] w ((w.alloc (.cells #[.string s, .int .i64 (n : Int)] 24)).alloc (.cells #[.string s, .int .i64 (m : Int)] 24)) := ((Fr.refl _ _).alloc _).alloc _
  go_enter Try.func27, Try.ntmps27
  go_wp2
  generalize (w.alloc (.cells #[.string s, .int .i64 (n : Int)] 24)).alloc (.cells #[.string s, .int .i64 (m : Int)] 24) = w1 at bA bB f1 ⊢
  have q0 := bA.c0
  have q1 := bA.c1
  have q2 := bB.c0
  have q3 := bB.c1
  have gA := bA.kept ((Fr.refl [] w1).alloc (.cells #[.int .i64 (compareBytes (bl s) (bl s)), .int .i64 (cmpI n m)] 3)) (by simp)
  have gB := bB.kept ((Fr.refl [] w1).alloc (.cells #[.int .i64 (compareBytes (bl s) (bl s)), .int .i64 (cmpI n m)] 3)) (by simp)
  have k0 := gA.c0
  have k1 := gA.c1
  have k2 := gB.c0
  have k3 := gB.c1
  obtain ⟨c0, c1⟩ := cells2 w1 3 (.int .i64 (compareBytes (bl s) (bl s))) (.int .i64 (cmpI n m))
  go_region_held3 (fun w' => w'.cell? ⟨w.heap.size, 0, none⟩ = some (.string s) ∧ w'.cell? ⟨w.heap.size, 1, none⟩ = some (.int .i64 (n : Int)) ∧ w'.cell? ⟨w.heap.size + 1, 0, none⟩ = some (.string s) ∧ w'.cell? ⟨w.heap.size + 1, 1, none⟩ = some (.int .i64 (m : Int))) (first | exact ⟨q0, q1, q2, q3⟩ | exact ⟨k0, k1, k2, k3⟩)
    ((first | (go_at_call 42; refine (strCompare_any _ s s).mono ?_; rintro e w5 ⟨rfl, rfl⟩) | (go_at_call 43; refine (cmpCompare_any _ n m).mono ?_; rintro e w5 ⟨rfl, rfl⟩) | (go_at_call 41; refine (cmpOr_any (w1.alloc (.cells #[.int .i64 (compareBytes (bl s) (bl s)), .int .i64 (cmpI n m)] 3)).drew _ _ _ c0 c1).mono ?_; rintro e w5 ⟨rfl, rfl⟩)))
  all_goals go_wp2
  all_goals (go_ret; exact ⟨rfl, (f1.alloc _).drew⟩)

theorem toList_bl (s : ByteArray) : s.toList = bl s := ByteArray.toList_eq s
theorem bl_inj {s t : ByteArray} (h : bl s = bl t) : s = t := by rw [← mkS_bl s, ← mkS_bl t, h]

theorem compare_any (w : World) (s t : ByteArray) (n m : Nat) (r q : List Bool) (h : Rep s n r) (k : Rep t m q) :
    Calls Try.prog 27 #[bv s n, bv t m] w fun e w' => e = .returned (.int .i64 (stand r q)) ∧ Fr [] w w' := by
  by_cases hs : s = t
  · subst hs
    by_cases hn : n = m
    · subst hn
      rw [h.inj k, stand_self]
      exact compare_same w s n
    · rw [← stand_rep h k]
      exact compare_ne2 w s n m (by omega)
  · rw [← stand_rep h k]
    exact compare_ne1 w s t n m (fun e => hs (bl_inj (by rw [← toList_bl, ← toList_bl]; exact e)))

set_option maxHeartbeats 2000000 in
set_option maxRecDepth 100000 in
theorem begins_in (w : World) (s t : ByteArray) (n m : Nat) (r q : List Bool) (h : Rep s n r) (k : Rep t m q) (hm : m ≤ n) :
    Calls Try.prog 29 #[bv s n, bv t m] w fun e w' => e = .returned (.bool (r.take m == q)) ∧ Fr [] w w' := by
  have bA : Box ((w.alloc (.cells #[.string s, .int .i64 (n : Int)] 24)).alloc (.cells #[.string t, .int .i64 (m : Int)] 24)) w.heap.size s n := (Box.new w s n).kept ((Fr.refl [] _).alloc _) (by simp)
  have bB : Box ((w.alloc (.cells #[.string s, .int .i64 (n : Int)] 24)).alloc (.cells #[.string t, .int .i64 (m : Int)] 24)) (w.heap.size + 1) t m := by simpa using Box.new (w.alloc (.cells #[.string s, .int .i64 (n : Int)] 24)) t m
  have f1 : Fr [] w ((w.alloc (.cells #[.string s, .int .i64 (n : Int)] 24)).alloc (.cells #[.string t, .int .i64 (m : Int)] 24)) := ((Fr.refl _ _).alloc _).alloc _
  by_cases he : r.take m = q
  · have HE : Hid ((r.take m == q) = true) := by show _ = _; simpa using he
    have HE2 : Hid (r.take m = q) := he
    clear he
    go_enter Try.func29, Try.ntmps29
    go_wp2_with (go_at_call 18; refine (cut_in _ s n 0 m m r h (by omega) hm).mono ?_; rintro e w2 ⟨u, rfl, hu, f2⟩; have hu2 : u = t := (hu.unique (by rw [List.drop_zero, HE2.out]; exact k)).1; subst hu2; have bB2 := (bB.kept f2 (by simp)).kept ((Fr.refl [] w2).alloc (.cells #[.string u, .int .i64 (m : Int)] 24)) (by simp); have q2 := bB2.c0; have q3 := bB2.c1; have g2 := f1.trans f2)
    go_ret
    exact ⟨by rw [HE.out]; rfl, g2.alloc _⟩
  · have HE : Hid ((r.take m == q) = false) := by show _ = _; simpa using he
    go_enter Try.func29, Try.ntmps29
    go_wp2_with (go_at_call 18; refine (cut_in _ s n 0 m m r h (by omega) hm).mono ?_; rintro e w2 ⟨u, rfl, hu, f2⟩; have hu2 : ¬ u.toList = t.toList := (fun e => he (by have e2 := bl_inj (s := u) (t := t) (by rw [← toList_bl, ← toList_bl]; exact e); subst e2; have := hu.inj k; rwa [List.drop_zero] at this)); have bB2 := (bB.kept f2 (by simp)).kept ((Fr.refl [] w2).alloc (.cells #[.string u, .int .i64 (m : Int)] 24)) (by simp); have q2 := bB2.c0; have q3 := bB2.c1; have g2 := f1.trans f2)
    go_ret
    exact ⟨by rw [HE.out]; rfl, g2.alloc _⟩

set_option maxHeartbeats 2000000 in
set_option maxRecDepth 100000 in
theorem begins_out (w : World) (s t : ByteArray) (n m : Nat) (hm : n < m) :
    Calls Try.prog 29 #[bv s n, bv t m] w fun e w' => e = .returned (.bool false) ∧ Fr [] w w' := by
  have f1 : Fr [] w ((w.alloc (.cells #[.string s, .int .i64 (n : Int)] 24)).alloc (.cells #[.string t, .int .i64 (m : Int)] 24)) := ((Fr.refl _ _).alloc _).alloc _
  go_enter Try.func29, Try.ntmps29
  go_wp2_with (go_at_call 18; refine (cut_bad _ s n 0 (m : Int) (by omega)).mono ?_; rintro e w2 ⟨rfl, f2⟩; have g2 := f1.trans f2)
  go_ret
  exact ⟨rfl, g2.alloc _⟩

theorem begins_any (w : World) (s t : ByteArray) (n m : Nat) (r q : List Bool) (h : Rep s n r) (k : Rep t m q) :
    Calls Try.prog 29 #[bv s n, bv t m] w fun e w' => e = .returned (.bool (r.take m == q)) ∧ Fr [] w w' := by
  by_cases hm : m ≤ n
  · exact begins_in w s t n m r q h k hm
  · have : (r.take m == q) = false := by
      rw [beq_eq_false_iff_ne]
      intro e
      have := congrArg List.length e
      rw [List.length_take, h.len, k.len] at this
      omega
    rw [this]
    exact begins_out w s t n m (by omega)

end Go.Proofs.Ytdkleigkkndecaa
