/-
  OverBytes; what a step writes.
-/
import Derived.Test.YtkenkgfohgmpnaaLent
namespace Go.Proofs.Ytkenkgfohgmpnaa
open Go.RowKit Go.Maps

set_option maxHeartbeats 1000000 in
set_option maxRecDepth 100000 in
theorem over_any (w : World) (g cap n : Nat) (l : List UInt8) (hl : l.length = n) (hn : n ≤ 512) (hlent : LentAt w g cap l) :
    Calls Try.prog 36 #[.slice (some ⟨g, 0, none⟩) n cap] w fun e w' => e = .returned (.tuple #[]) ∧ Fr [g] w w' := by
  have hcap := hlent.cap
  rw [hl] at hcap
  have hn' : (n : Int) ≤ 512 := by omega
  have hn0 : (0 : Int) ≤ (n : Int) := by omega
  have hc1 : (n : Int) + 12 ≤ (cap : Int) := by omega
  have hcz : ¬ cap = 0 := by omega
  obtain ⟨cur0, hg0, _, hs0⟩ := hlent.ex
  clear hl hlent
  go_enter Try.func36, Try.ntmps36
  go_wp2_with fail
  go_loopw [3] (fun i wr => ∃ j : Nat, j ≤ n + 12 ∧ i = .int .i64 j ∧ (∃ cur : Array Value, wr.heap[g]? = some (.cells cur 5) ∧ cap ≤ cur.size) ∧ Fr [g] w wr) (fun i _ => n + 12 - (intOf i).toNat)
  case atStart => exact ⟨0, by omega, rfl, ⟨cur0, hg0, by omega⟩, Fr.refl _ _⟩
  case round =>
    obtain ⟨j, hj, rfl, ⟨cur, hg, hs⟩, fr⟩ := hrel
    by_cases hlt : j < n + 12
    · have hlt' : (j : Int) < (n : Int) + 12 := by omega
      have hj0 : (0 : Int) ≤ (j : Int) := by omega
      have hc := cell_of_row wr g j cur 5 (0, 0) hg
      rw [Array.getElem?_eq_getElem (show j < cur.size by omega)] at hc
      have hfz := frozen_of_row wr g j cur 5 hg
      go_wp2_with (go_at_call 51; refine (markByte_any _ 2 j (by omega) (by omega) hj0 (by omega)).mono ?_; rintro e w5 ⟨rfl, rfl⟩)
      exact ⟨⟨j + 1, by omega, by go_num, ⟨_, heap_setCell_same wr g j cur 5 _ hg, by simpa using hs⟩, fr.setCell _ _ (by simp)⟩, by simp [intOf]; omega⟩
    · obtain rfl : j = n + 12 := by omega
      go_wp2_with fail
      go_end0
      exact ⟨rfl, fr⟩

/-- How many bytes a step writes. -/
def doLen (n : Int) : Nat := if n.tmod 7 == 3 then (n % 512).toNat else 512
theorem doLen_le (n : Int) : doLen n ≤ 512 := by unfold doLen; split <;> omega

theorem Blk.prefix {w : World} {g : Nat} {t : TypeId} {l : List UInt8} (h : Blk w g t l) (m : Nat) : BytesAt w (some ⟨g, 0, none⟩) (l.take m) := by
  intro j v hv
  refine ⟨g, 0, rfl, h.src j v ?_⟩
  have hj : j < m := by
    have := (List.getElem?_eq_some_iff.1 hv).1
    simp [arr] at this
    omega
  rw [← hv]
  simp [arr, hj]

set_option maxHeartbeats 1000000 in
set_option maxRecDepth 100000 in
theorem bytes_any (w : World) (op block n byte : Int) (f : Value) (hn : (Lit.int .i64 n).wf = true) (h0 : 0 ≤ byte) (h1 : byte < 256) :
    Calls Try.prog 32 #[.agg #[.int .i64 op, .int .i64 block, .int .i64 n, .int .u8 byte, f]] w fun e w' => ∃ g, e = .returned (.slice (some ⟨g, 0, none⟩) (doLen n) 512) ∧ BytesAt w' (some ⟨g, 0, none⟩) ((fullL byte).take (doLen n)) ∧ w.heap.size ≤ g ∧ g < w'.heap.size ∧ Fr [] w w' := by
  have k0 := Int.emod_nonneg n (show (512 : Int) ≠ 0 by omega)
  have k1 := Int.emod_lt_of_pos n (show (0 : Int) < 512 by omega)
  have e0 : (w.alloc (.cells #[.int .i64 op, .int .i64 block, .int .i64 n, .int .u8 byte, f] 30)).heap.size = w.heap.size + 1 := by simp
  have E0 : Hid ((w.alloc (.cells #[.int .i64 op, .int .i64 block, .int .i64 n, .int .u8 byte, f] 30)).heap.size = w.heap.size + 1) := e0
  clear e0
  cases hc : (n.tmod 7 == 3)
  · have e1 : doLen n = 512 := by unfold doLen; rw [hc]; rfl
    rw [e1, List.take_of_length_le (by rw [fullL_length]; omega)]
    clear e1
    go_enter Try.func32, Try.ntmps32
    go_wp2_with (go_at_call 28; refine (full_any _ byte h0 h1).mono ?_; rintro e w5 ⟨rfl, b5, f5⟩; have f15 := ((Fr.refl [] w).alloc _).trans f5; have cc := cell_of_row w5 w.heap.size 2 _ _ _ (f5.same (by simp) (heap_alloc_new w _)); rw [E0.out] at b5)
    go_ret
    exact ⟨_, rfl, b5.bytes, by omega, b5.lt, f15⟩
  · have e1 : doLen n = (n % 512).toNat := by unfold doLen; rw [hc]; rfl
    rw [e1]
    clear e1
    go_enter Try.func32, Try.ntmps32
    go_wp2_with (first
      | (go_at_call 28; refine (full_any _ byte h0 h1).mono ?_; rintro e w5 ⟨rfl, b5, f5⟩; have f15 := ((Fr.refl [] w).alloc _).trans f5; have cc := cell_of_row w5 w.heap.size 2 _ _ _ (f5.same (by simp) (heap_alloc_new w _)); rw [E0.out] at b5)
      | (go_at_call 18; refine (pick_same _ n 512 hn (by omega) (by omega)).mono ?_; rintro e w6 ⟨rfl, rfl⟩))
    go_ret
    exact ⟨_, rfl, b5.prefix _, by omega, b5.lt, f15⟩

end Go.Proofs.Ytkenkgfohgmpnaa
