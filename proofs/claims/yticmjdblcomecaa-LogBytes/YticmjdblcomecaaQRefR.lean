/-
  The document's own rule of what is right: parchmentref10's within, fits, Right.
-/
import Derived.Test.YticmjdblcomecaaQRec
namespace Go.Proofs.Yticmjdblcomecaa
open Go.RowKit Go.Maps

set_option maxHeartbeats 400000 in
theorem within_any (w : World) (n : Int) : Calls Try.prog 75 #[.int .i64 n] w fun e w' => e = .returned (.bool (placeB n)) ∧ w' = w := by
  unfold placeB
  by_cases h1 : 0 ≤ n
  · by_cases h2 : n ≤ 4611686018427387904
    · rw [decide_eq_true h1, decide_eq_true h2]
      go_enter Try.func75, Try.ntmps75
      go_wp2
      go_ret
      exact ⟨rfl, rfl⟩
    · rw [decide_eq_true h1, decide_eq_false h2]
      go_enter Try.func75, Try.ntmps75
      go_wp2
      go_ret
      exact ⟨rfl, rfl⟩
  · rw [decide_eq_false h1]
    go_enter Try.func75, Try.ntmps75
    go_wp2
    go_ret
    exact ⟨rfl, rfl⟩

theorem fits_eq (b o : Int) (m : Nat) : fitsB b o m = (decide (0 ≤ b) && (decide (b < 65536) && (decide (0 ≤ o) && (decide (o < 512) && (decide (1 ≤ m) && decide ((m : Int) ≤ 512 - o)))))) := by
  unfold fitsB
  rw [Bool.eq_iff_iff]
  simp only [Bool.and_eq_true, decide_eq_true_eq]
  omega
set_option maxHeartbeats 1000000 in
theorem rfits_any (w : World) (b o : Int) (n c1 m c2 : Nat) (a1 a2 : Option Addr) (hm : m ≤ 1000000) : Calls Try.prog 76 #[.agg #[.int .i64 b, .int .i64 o, .slice a1 n c1, .slice a2 m c2]] w fun e w' => e = .returned (.bool (fitsB b o m)) ∧ Fr [] w w' := by
  rw [fits_eq]
  by_cases h0 : 0 ≤ b
  · by_cases h1 : b < 65536
    · by_cases h2 : 0 ≤ o
      · by_cases h3 : o < 512
        · by_cases h4 : 1 ≤ m
          · by_cases h5 : (m : Int) ≤ 512 - o
            · rw [decide_eq_true h0, decide_eq_true h1, decide_eq_true h2, decide_eq_true h3, decide_eq_true h4, decide_eq_true h5]; have hm1 : (1 : Int) ≤ m := (by omega); have hw : IntKind.i64.wrap (512 - o) = 512 - o := (by simp [IntKind.wrap, IntKind.signed, IntKind.bits]; omega)
              go_enter Try.func76, Try.ntmps76
              go_wp2_with fail
              go_ret
              exact ⟨rfl, (Fr.refl [] w).alloc _⟩
            · rw [decide_eq_true h0, decide_eq_true h1, decide_eq_true h2, decide_eq_true h3, decide_eq_true h4, decide_eq_false h5]; have hm1 : (1 : Int) ≤ m := (by omega); have hw : IntKind.i64.wrap (512 - o) = 512 - o := (by simp [IntKind.wrap, IntKind.signed, IntKind.bits]; omega)
              go_enter Try.func76, Try.ntmps76
              go_wp2_with fail
              go_ret
              exact ⟨rfl, (Fr.refl [] w).alloc _⟩
          · rw [decide_eq_true h0, decide_eq_true h1, decide_eq_true h2, decide_eq_true h3, decide_eq_false h4]; have hm1 : ¬ (1 : Int) ≤ m := (by omega)
            go_enter Try.func76, Try.ntmps76
            go_wp2_with fail
            go_ret
            exact ⟨rfl, (Fr.refl [] w).alloc _⟩
        · rw [decide_eq_true h0, decide_eq_true h1, decide_eq_true h2, decide_eq_false h3]
          go_enter Try.func76, Try.ntmps76
          go_wp2_with fail
          go_ret
          exact ⟨rfl, (Fr.refl [] w).alloc _⟩
      · rw [decide_eq_true h0, decide_eq_true h1, decide_eq_false h2]
        go_enter Try.func76, Try.ntmps76
        go_wp2_with fail
        go_ret
        exact ⟨rfl, (Fr.refl [] w).alloc _⟩
    · rw [decide_eq_true h0, decide_eq_false h1]
      go_enter Try.func76, Try.ntmps76
      go_wp2_with fail
      go_ret
      exact ⟨rfl, (Fr.refl [] w).alloc _⟩
  · rw [decide_eq_false h0]
    go_enter Try.func76, Try.ntmps76
    go_wp2_with fail
    go_ret
    exact ⟨rfl, (Fr.refl [] w).alloc _⟩

set_option maxHeartbeats 2000000 in
theorem rright_no (w : World) (r : Rec) (sp : Spots) (h : (headB r && placeB r.next) = false) : Calls Try.prog 40 #[.agg (recV r sp)] w fun e w' => e = .returned (.bool false) ∧ Fr [] w w' := by
  obtain ⟨lsn, turn, kind, tx, prev, next, block, off, old, new⟩ := r
  unfold recV
  unfold headB at h
  dsimp only at h ⊢
  generalize old.length = no
  generalize new.length = nn
  by_cases h0 : 1 ≤ lsn
  · by_cases h1 : lsn ≤ 4611686018427387904
    · by_cases h2 : 1 ≤ turn
      · by_cases h3 : turn ≤ 2147483647
        · cases h4 : placeB tx
          · clear h
            go_enter Try.func40, Try.ntmps40
            go_wp2_with (first | (go_at_call 75; refine (within_any _ _).mono ?_; rintro e w' ⟨rfl, rfl⟩))
            go_ret
            exact ⟨rfl, (Fr.refl [] w).alloc _⟩
          · cases h5 : placeB prev
            · clear h
              go_enter Try.func40, Try.ntmps40
              go_wp2_with (first | (go_at_call 75; refine (within_any _ _).mono ?_; rintro e w' ⟨rfl, rfl⟩))
              go_ret
              exact ⟨rfl, (Fr.refl [] w).alloc _⟩
            · cases h6 : placeB next
              · clear h
                go_enter Try.func40, Try.ntmps40
                go_wp2_with (first | (go_at_call 75; refine (within_any _ _).mono ?_; rintro e w' ⟨rfl, rfl⟩))
                go_ret
                exact ⟨rfl, (Fr.refl [] w).alloc _⟩
              · rw [decide_eq_true h0, decide_eq_true h1, decide_eq_true h2, decide_eq_true h3, h4, h5, h6] at h; cases h
        · clear h
          go_enter Try.func40, Try.ntmps40
          go_wp2_with fail
          go_ret
          exact ⟨rfl, (Fr.refl [] w).alloc _⟩
      · clear h
        go_enter Try.func40, Try.ntmps40
        go_wp2_with fail
        go_ret
        exact ⟨rfl, (Fr.refl [] w).alloc _⟩
    · clear h
      go_enter Try.func40, Try.ntmps40
      go_wp2_with fail
      go_ret
      exact ⟨rfl, (Fr.refl [] w).alloc _⟩
  · clear h
    go_enter Try.func40, Try.ntmps40
    go_wp2_with fail
    go_ret
    exact ⟨rfl, (Fr.refl [] w).alloc _⟩

end Go.Proofs.Yticmjdblcomecaa
