/-
  The law's own helper sectors: each fate of a block.
-/
import Derived.Test.YtkenkgfohgmpnaaPick
namespace Go.Proofs.Ytkenkgfohgmpnaa
open Go.RowKit Go.Maps

theorem secs_latest (k : Int) : latest (wokenAt (over Tab.none (Tab.put Tab.none 0 (fullL 1))) (Tab.put Tab.none 0 (fullL 101)) [(0, k)]) Tab.none 0 = tornTo (fullL 1) (fullL 101) k 8 := by
  simp [latest, wokenAt, over, Tab.put, Tab.none, Tab.get, keepOf]

theorem torn_at (a b k : Int) (i : Nat) (hi : i < 512) : (tornTo (fullL a) (fullL b) k 8)[i]? = some (if bitOf k (i / 64) = true then fullB b i else fullB a i) := by
  have h8 : i / 64 < 8 := by omega
  simp [tornTo, List.getElem?_map, List.getElem?_range hi, fullL, h8]

theorem and_one_i64 (x : Int) (h0 : 0 ≤ x) (h1 : x < 256) : bits BinOp.and IntKind.i64 x 1 = x % 2 := by
  obtain ⟨n, rfl⟩ := Int.eq_ofNat_of_zero_le h0
  have hn : n < 256 := by omega
  have hx : n &&& 1 < 2 ^ 8 := Nat.and_lt_two_pow _ (by omega)
  have e1 : (BitVec.ofInt 64 (n : Int)).toNat = n := by
    rw [BitVec.ofInt_natCast, BitVec.toNat_ofNat]; exact Nat.mod_eq_of_lt (by omega)
  have e2 : (BitVec.ofInt 64 (1 : Int)).toNat = 1 := by decide
  have e3 : bits BinOp.and IntKind.i64 (n : Int) 1 = ((n &&& 1 : Nat) : Int) := by
    show IntKind.i64.wrap ((BitVec.ofInt 64 (n : Int) &&& BitVec.ofInt 64 (1 : Int)).toNat : Int) = _
    rw [BitVec.toNat_and, e1, e2]
    simp [IntKind.wrap, IntKind.bits, IntKind.signed]
    omega
  rw [e3, Nat.and_one_is_mod]
  omega

set_option maxHeartbeats 2000000 in
set_option maxRecDepth 100000 in
theorem sectors_law (w : World) : Calls Try.prog 31 #[] w fun e w' => e = .returned (.bool true) ∧ Fr [] w w' := by
  go_enter Try.func31, Try.ntmps31
  go_wp2_with fail
  go_loopw [1] (fun i wr => ∃ k : Nat, k ≤ 256 ∧ i = .int .i64 k ∧ Fr [] w wr) (fun i _ => 256 - (intOf i).toNat)
  case atStart => exact ⟨0, by omega, rfl, Fr.refl _ _⟩
  case round =>
    obtain ⟨k, hk, rfl, fr⟩ := hrel
    obtain ⟨wq, hwq⟩ : ∃ wq, wq = wr := ⟨_, rfl⟩
    subst hwq
    by_cases hlt : k < 256
    · have hlt' : (k : Int) < 256 := by omega
      have hk0 : (0 : Int) ≤ (k : Int) := by omega
      go_wp2_with fail
      refine (new_dev 1 _ (by omega) (by omega)).mono ?_
      rintro e w1 ⟨rfl, d1, f1⟩
      go_wp2_with fail
      refine (full_any _ 1 (by omega) (by omega)).mono ?_
      rintro e w2 ⟨rfl, b2, f2⟩
      have d2 := d1.kept f2 (by simp) (by simp) (by simp)
      go_wp2_with fail
      refine (write_dev d2 0 (by omega) (by omega) _ 0 _ (fullL 1) (fullL_length 1) b2.src).mono ?_
      rw [show told (crash 0) = 0 from rfl, show left 0 = 0 from rfl, show crash 0 = false from rfl]
      rintro e w3 ⟨rfl, d3, f3⟩
      have f13 : Fr [] wq w3 := (f1.trans f2).then f3 (fun i hi hm => by simp at hm; omega)
      go_wp2_with fail
      refine (sync_dev d3 rfl).mono ?_
      rw [show left 0 = 0 from rfl]
      rintro e w4 ⟨rfl, d4, f4⟩
      have f14 : Fr [] wq w4 := f13.then f4 (fun i hi hm => by simp at hm; omega)
      clear f13 d3 d2 d1 b2 f1 f2 f3 f4
      go_wp2_with fail
      refine (full_any _ 101 (by omega) (by omega)).mono ?_
      rintro e w5 ⟨rfl, b5, f5⟩
      have d5 := d4.kept f5 (by simp) (by simp) (by simp)
      go_wp2_with fail
      refine (write_dev d5 0 (by omega) (by omega) _ 0 _ (fullL 101) (fullL_length 101) b5.src).mono ?_
      rw [show told (crash 0) = 0 from rfl, show left 0 = 0 from rfl, show crash 0 = false from rfl]
      rintro e w6 ⟨rfl, d6, f6⟩
      have f16 : Fr [] wq w6 := (f14.trans f5).then f6 (fun i hi hm => by simp at hm; omega)
      clear d5 d4 b5 f5 f6 f14
      go_wp2_with fail
      refine (wake_dev (d6.alloc _) [(0, (k : Int))] _ _ (fates_one w6 0 k (by decide) (by omega) (by omega)) (by simp)).mono ?_
      rintro e w7 ⟨rfl, d7, f7⟩
      have f17 : Fr [] wq w7 := (f16.alloc _).then f7 (fun i hi hm => by simp at hm; omega)
      clear d6 f16 f7
      go_wp2_with fail
      refine (read_dev d7 0 (by omega) (by omega)).mono ?_
      rw [secs_latest]
      rintro e w8 ⟨g, rfl, b8, hg, f8⟩
      have f18 : Fr [] w w8 := (fr.trans f17).trans f8
      clear d7 f17 f8 hg
      go_wp2_with fail
      go_loop [5] (fun i => ∃ j : Nat, j ≤ 512 ∧ i = .int .i64 j) (fun i => 512 - (intOf i).toNat)
      case atStart => exact ⟨0, by omega, rfl⟩
      case round =>
        obtain ⟨j, hj, rfl⟩ := hrel
        by_cases hjl : j < 512
        · have hjl' : (j : Int) < 512 := by omega
          have hj0 : (0 : Int) ≤ (j : Int) := by omega
          have hand := and_one_i64 ((k : Int) / 2 ^ (j / 64)) (Int.ediv_nonneg hk0 (by exact Int.le_of_lt (Int.pow_pos (by omega)))) (by have := Int.ediv_le_self (2 ^ (j / 64) : Int) hk0; omega)
          cases hbit : bitOf (k : Int) (j / 64)
          · have hc := b8.cellOf j (1 + j / 64) (by
              rw [torn_at 1 101 k j hjl, hbit]
              simp [fullB]; omega)
            have hc' : w8.cell? ⟨g, j, none⟩ = some (.int .u8 (1 + (j : Int) / 64)) := by rw [hc]; simp
            have hb : ((k : Int) / 2 ^ (j / 64) % 2 == 1) = false := hbit
            clear hc hbit
            go_wp2_with fail
            exact ⟨⟨j + 1, by omega, by go_num⟩, by simp [intOf]; omega⟩
          · have hc := b8.cellOf j (1 + j / 64 + 100) (by
              rw [torn_at 1 101 k j hjl, hbit]
              simp [fullB]; omega)
            have hc' : w8.cell? ⟨g, j, none⟩ = some (.int .u8 (1 + (j : Int) / 64 + 100)) := by rw [hc]; simp
            have hb : ((k : Int) / 2 ^ (j / 64) % 2 == 1) = true := hbit
            clear hc hbit
            go_wp2_with fail
            exact ⟨⟨j + 1, by omega, by go_num⟩, by simp [intOf]; omega⟩
        · obtain rfl : j = 512 := by omega
          go_wp2_with fail
          exact ⟨⟨k + 1, by omega, by go_num, f18⟩, by simp [intOf]; omega⟩
    · obtain rfl : k = 256 := by omega
      go_wp2_with fail
      go_ret
      exact ⟨rfl, fr⟩

end Go.Proofs.Ytkenkgfohgmpnaa
