/-
  The small functions of bits: bytesFor, maskAt, fillOf, Len, At.
-/
import Derived.Test.YtddcilmeignlmaaGreatDoorBase
namespace Go.Proofs.YtddcilmeignlmaaGreatDoor
open Go.RowKit

set_option maxHeartbeats 400000 in
theorem bytesFor_any (w : World) (n : Nat) (hn : n ≤ 16777216) :
    Calls Tryz.prog 58 #[.int .i64 (n : Int)] w fun e w' => e = .returned (.int .i64 (((n + 7) / 8 : Nat) : Int)) ∧ w = w' := by
  have h1 : (n : Int) ≤ 16777216 := by omega
  have h0 : (0 : Int) ≤ (n : Int) := by omega
  go_enter Tryz.func58, Tryz.ntmps58
  go_wp2
  go_ret
  exact ⟨by simp, rfl⟩

set_option maxHeartbeats 400000 in
theorem maskAt_any (w : World) (n : Nat) (hn : n ≤ 16777216) :
    Calls Tryz.prog 61 #[.int .i64 (n : Int)] w fun e w' => e = .returned (.int .u8 (maskB n).toNat) ∧ w = w' := by
  have h1 : (n : Int) ≤ 16777216 := by omega
  have h0 : (0 : Int) ≤ (n : Int) := by omega
  rw [mask_int]
  go_enter Tryz.func61, Tryz.ntmps61
  go_wp2
  go_ret
  exact ⟨rfl, rfl⟩

set_option maxHeartbeats 400000 in
theorem fillOf_any (w : World) (n : Nat) (hn : n ≤ 16777216) :
    Calls Tryz.prog 90 #[.int .i64 (n : Int)] w fun e w' => e = .returned (.int .u8 (fillB n).toNat) ∧ w = w' := by
  have h1 : (n : Int) ≤ 16777216 := by omega
  have h0 : (0 : Int) ≤ (n : Int) := by omega
  rw [fill_int]
  go_enter Tryz.func90, Tryz.ntmps90
  go_wp2
  go_ret
  exact ⟨rfl, rfl⟩

theorem maskAt_eq (w : World) (n : Nat) (hn : n ≤ 16777216) :
    Calls Tryz.prog 61 #[.int .i64 (n : Int)] w fun e w' => e = .returned (.int .u8 (maskB n).toNat) ∧ w' = w := (maskAt_any w n hn).mono fun _ _ h => ⟨h.1, h.2.symm⟩
theorem fillOf_eq (w : World) (n : Nat) (hn : n ≤ 16777216) :
    Calls Tryz.prog 90 #[.int .i64 (n : Int)] w fun e w' => e = .returned (.int .u8 (fillB n).toNat) ∧ w' = w := (fillOf_any w n hn).mono fun _ _ h => ⟨h.1, h.2.symm⟩

/-- A row of bits as a value. -/
abbrev bv (s : ByteArray) (n : Nat) : Value := .agg #[.string s, .int .i64 (n : Int)]

set_option maxHeartbeats 400000 in
theorem len_any (w : World) (s : ByteArray) (n : Nat) :
    Calls Tryz.prog 34 #[bv s n] w fun e w' => e = .returned (.int .i64 (n : Int)) ∧ Fr [] w w' := by
  go_enter Tryz.func34, Tryz.ntmps34
  go_wp2
  go_ret
  exact ⟨rfl, (Fr.refl _ _).alloc _⟩

/-- The bit at a place, as a number. -/
def bitN (b : Bool) : Int := if b then 1 else 0
def atI (r : List Bool) (i : Int) : Int := if 0 ≤ i ∧ i < r.length then bitN (r.getD i.toNat false) else -1

set_option maxHeartbeats 1000000 in
theorem at_in (w : World) (s : ByteArray) (n : Nat) (r : List Bool) (h : Rep s n r) (i : Nat) (hi : i < n) :
    Calls Tryz.prog 54 #[bv s n, .int .i64 (i : Int)] w fun e w' => e = .returned (.int .i64 (bitN (r.getD i false))) ∧ Fr [] w w' := by
  have hi' : (i : Int) < (n : Int) := by omega
  have h0 : (0 : Int) ≤ (i : Int) := by omega
  have hm := h.most
  have hsz := h.size
  have hs : i / 8 < s.size := by omega
  clear hsz
  have hix := run_idx s ((i : Int) / 8) (i / 8) (by omega) hs
  have hq : (bits .and .u8 ((byteAt (bl s) (i / 8)).toNat : Int) ((maskB i).toNat : Int) != 0) = r.getD i false := by rw [and_mask_int, h.bit]
  cases hb : r.getD i false
  · rw [hb] at hq
    show Calls _ _ _ _ fun e w' => e = .returned (.int .i64 0) ∧ Fr [] w w'
    go_enter Tryz.func54, Tryz.ntmps54
    go_wp2
    go_quiet ((go_at_call 61; exact Calls.quiet_of_same (maskAt_eq _ i (by omega))))
    go_wp2
    go_ret
    exact ⟨rfl, ((Fr.refl _ _).alloc _).drewN _⟩
  · rw [hb] at hq
    show Calls _ _ _ _ fun e w' => e = .returned (.int .i64 1) ∧ Fr [] w w'
    go_enter Tryz.func54, Tryz.ntmps54
    go_wp2
    go_quiet ((go_at_call 61; exact Calls.quiet_of_same (maskAt_eq _ i (by omega))))
    go_wp2
    go_ret
    exact ⟨rfl, ((Fr.refl _ _).alloc _).drewN _⟩

set_option maxHeartbeats 1000000 in
theorem at_low (w : World) (s : ByteArray) (n : Nat) (i : Int) (hi : i < 0) :
    Calls Tryz.prog 54 #[bv s n, .int .i64 i] w fun e w' => e = .returned (.int .i64 (-1)) ∧ Fr [] w w' := by
  go_enter Tryz.func54, Tryz.ntmps54
  go_wp2
  go_ret
  exact ⟨rfl, (Fr.refl _ _).alloc _⟩

set_option maxHeartbeats 1000000 in
theorem at_high (w : World) (s : ByteArray) (n : Nat) (i : Int) (hi : (n : Int) ≤ i) (h0 : 0 ≤ i) :
    Calls Tryz.prog 54 #[bv s n, .int .i64 i] w fun e w' => e = .returned (.int .i64 (-1)) ∧ Fr [] w w' := by
  have hd : decide (i < 0) = false := by simp; omega
  go_enter Tryz.func54, Tryz.ntmps54
  go_wp2
  go_ret
  exact ⟨rfl, (Fr.refl _ _).alloc _⟩

theorem at_any (w : World) (s : ByteArray) (n : Nat) (r : List Bool) (h : Rep s n r) (i : Int) :
    Calls Tryz.prog 54 #[bv s n, .int .i64 i] w fun e w' => e = .returned (.int .i64 (atI r i)) ∧ Fr [] w w' := by
  by_cases h0 : 0 ≤ i
  · by_cases h1 : i < n
    · obtain ⟨k, rfl⟩ : ∃ k : Nat, i = k := ⟨i.toNat, by omega⟩
      have : atI r (k : Int) = bitN (r.getD k false) := by unfold atI; rw [if_pos ⟨h0, by rw [h.len]; exact h1⟩]; rfl
      rw [this]
      exact at_in w s n r h k (by omega)
    · have : atI r i = -1 := by unfold atI; rw [if_neg]; rw [h.len]; omega
      rw [this]
      exact at_high w s n i (by omega) h0
  · have : atI r i = -1 := by unfold atI; rw [if_neg]; omega
    rw [this]
    exact at_low w s n i (by omega)

end Go.Proofs.YtddcilmeignlmaaGreatDoor
