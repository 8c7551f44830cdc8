/-
  A page is changed: the program's setNumber, SetNext.
-/
import Derived.Test.YtlfpoeimgoikkaaGCopy
namespace Go.Proofs.Ytlfpoeimgoikkaa
open Go.RowKit Go.Maps

def beN : Nat → Nat → List UInt8
  | 0, _ => []
  | i + 1, n => UInt8.ofNat (n / 256 ^ i) :: beN i n
theorem beN_length (i n : Nat) : (beN i n).length = i := by
  induction i with
  | zero => rfl
  | succ i ih => simp [beN, ih]
theorem beN_two (n : Nat) : beN 2 n = be2 n := by simp [beN, be2]
theorem beN_four (n : Nat) : beN 4 n = be4 n := by simp [beN, be4]
theorem over_step (p : List UInt8) (k : Nat) (b : UInt8) (l : List UInt8) (h : k + 1 + l.length ≤ p.length) : over p k (b :: l) = (over p (k + 1) l).set k b := by
  unfold over
  rw [List.take_succ_eq_append_getElem (by omega), List.append_assoc, List.set_append_right _ _ (by simp; omega)]
  simp [show k - min k p.length = 0 by omega]
  congr 1
  omega

set_option maxHeartbeats 400000 in
set_option maxRecDepth 100000 in
theorem setNumber_any (w : World) (g off m mc c n : Nat) (p : List UInt8) (hg : RowB w g c p) (hm : m ≤ 4) (hfit : off + m ≤ p.length) (hmc : m ≤ mc) (hn : n < 4294967296) :
    Calls Try.prog 54 #[.slice (some ⟨g, off, none⟩) m mc, .int .i64 n] w fun r w' => r = .returned (.tuple #[]) ∧ RowB w' g c (over p off (beN m n)) ∧ Fr [g] w w' := by
  obtain ⟨N, HN⟩ : ∃ N : Int, Hid ((n : Int) = N) := ⟨_, rfl⟩
  have hN0 : 0 ≤ N := by have := HN.out; omega
  have hN1 : N < 4294967296 := by have := HN.out; omega
  rw [HN.out]
  go_enter Try.func54, Try.ntmps54
  go_wp2
  go_loopw [7] (fun i wr => ∃ j : Nat, j ≤ m ∧ i = .int .i64 j ∧ RowB wr g c (over p (off + m - j) (beN j n)) ∧ Fr [g] w wr) (fun i _ => m - (intOf i).toNat)
  case atStart => exact ⟨0, by omega, rfl, by simpa [over, beN] using hg, Fr.refl _ _⟩
  case round =>
    obtain ⟨j, hj, rfl, row, fr⟩ := hrel
    by_cases hlt : j < m
    · have hlt' : (j : Int) < m := by omega
      have hlen : (over p (off + m - j) (beN j n)).length = p.length := over_length _ _ _ (by rw [beN_length]; omega)
      have q1 := row.cell (off + m - 1 - j) (by rw [hlen]; omega)
      have z1 := row.frozen (off + m - 1 - j)
      have e1 : off + m - 1 - j = off + (m - 1 - j) := by omega
      rw [e1] at q1 z1
      go_wp2
      have HB : Hid (N / 2 ^ (8 * j) % 256 = ((UInt8.ofNat (n / 256 ^ j)).toNat : Int)) := by
        show _ = _
        rw [← HN.out, UInt8.toNat_ofNat', show (256 : Nat) ^ j = 2 ^ (8 * j) by rw [Nat.pow_mul]]
        simp
      rw [HB.out]
      refine ⟨⟨j + 1, by omega, by go_num, ?_, fr.setCell _ _ (by simp)⟩, by simp [intOf]; omega⟩
      have h2 := row.set (off + (m - 1 - j)) (UInt8.ofNat (n / 256 ^ j)) (by rw [hlen]; omega)
      have h3 := over_step p (off + (m - 1 - j)) (UInt8.ofNat (n / 256 ^ j)) (beN j n) (by rw [beN_length]; omega)
      rw [show off + (m - 1 - j) + 1 = off + m - j by omega] at h3
      rw [← h3] at h2
      rw [show off + m - (j + 1) = off + (m - 1 - j) by omega]
      exact h2
    · obtain rfl : j = m := by omega
      go_wp2
      go_end0
      exact ⟨rfl, by rw [Nat.add_sub_cancel] at row; exact row, fr⟩

/-! ### lists written over -/
theorem over_at (X R l : List UInt8) (k : Nat) (hk : k = X.length) : over (X ++ R) k l = X ++ (l ++ R.drop l.length) := by
  subst hk
  unfold over
  rw [List.take_left, List.drop_append, List.drop_eq_nil_of_le (by omega), List.nil_append]
  congr 3
  omega
theorem over_mid (X Y R l : List UInt8) (k : Nat) (hk : k = X.length) (hl : l.length = Y.length) : over (X ++ (Y ++ R)) k l = X ++ (l ++ R) := by
  rw [over_at X _ l k hk, hl, List.drop_left]

theorem pgB_setNext (k : UInt8) (x y : Nat) (cs : List (List UInt8)) : over (pgB k x cs) 2 (be4 y) = pgB k y cs := by
  unfold pgB
  exact over_mid [k, UInt8.ofNat cs.length] (be4 x) _ (be4 y) 2 rfl rfl

set_option maxHeartbeats 400000 in
set_option maxRecDepth 100000 in
theorem setNext_no (w : World) (ad : Option Addr) (n c : Nat) (l : List UInt8) (y : Int) (h : SlAt w ad n c l) (hn : okP l = false ∨ y < 0 ∨ 4294967295 < y) :
    Calls Try.prog 28 #[.slice ad n c, .int .i64 y] w fun r w' => r = .returned (.bool false) ∧ w' = w := by
  cases hk : okP l with
  | false =>
    clear hn
    go_enter Try.func28, Try.ntmps28
    go_wp2_with (go_at_call 31; refine (check_any _ _ _ _ l h).mono ?_; rintro e1 w ⟨rfl, rfl⟩)
    go_ret
    exact ⟨rfl, rfl⟩
  | true =>
    by_cases hy : y < 0
    · clear hn
      go_enter Try.func28, Try.ntmps28
      go_wp2_with (go_at_call 31; refine (check_any _ _ _ _ l h).mono ?_; rintro e1 w ⟨rfl, rfl⟩)
      go_ret
      exact ⟨rfl, rfl⟩
    · have hy2 : 4294967295 < y := by
        rcases hn with h0 | h0 | h0
        · rw [hk] at h0; cases h0
        · exact absurd h0 hy
        · exact h0
      clear hn
      go_enter Try.func28, Try.ntmps28
      go_wp2_with (go_at_call 31; refine (check_any _ _ _ _ l h).mono ?_; rintro e1 w ⟨rfl, rfl⟩)
      go_ret
      exact ⟨rfl, rfl⟩

set_option maxHeartbeats 400000 in
set_option maxRecDepth 100000 in
theorem setNext_yes (w : World) (g c : Nat) (l : List UInt8) (k : UInt8) (x y : Nat) (cs : List (List UInt8)) (h : RowB w g c l) (pg : Pg l k x cs) (hy : y < 4294967296) :
    Calls Try.prog 28 #[.slice (some ⟨g, 0, none⟩) 512 c, .int .i64 y] w fun r w' => r = .returned (.bool true) ∧ RowB w' g c (pgB k y cs) ∧ Fr [g] w w' := by
  have hk := pg.ok
  have hsl := h.sl
  rw [pg.len] at hsl
  have hcap : (6 : Int) ≤ c := by have := hsl.cap; omega
  have hy0 : (0 : Int) ≤ y := by omega
  have hy1 : (y : Int) ≤ 4294967295 := by omega
  have HO : Hid (over l 2 (beN 4 y) = pgB k y cs) := by
    show _ = _
    rw [beN_four, pg.eq, pgB_setNext]
  have hlen := pg.len
  go_enter Try.func28, Try.ntmps28
  go_wp2_with (first
    | (go_at_call 31; refine (check_any _ _ _ _ l hsl).mono ?_; rintro e1 w ⟨rfl, rfl⟩)
    | (go_at_call 54; refine (setNumber_any _ g 2 4 _ c y l h (by omega) (by omega) (by omega) hy).mono ?_; rintro e1 w1 ⟨rfl, r1, f1⟩))
  go_ret
  exact ⟨rfl, by rw [← HO.out]; exact r1, f1⟩
end Go.Proofs.Ytlfpoeimgoikkaa
