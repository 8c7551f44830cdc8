/-
  The document's answer to Whole, as a Go function.
-/
import Derived.Test.YthaekjolbjmjfaaDoorKey
import Derived.Test.YthaekjolbjmjfaaDoorKWMath
import Derived.Laws.Strings
namespace Go.Proofs.YthaekjolbjmjfaaDoor
open Go.RowKit Go.Maps

theorem run_tail (s : ByteArray) (i : Int) (f : Nat) (hf : i = (f : Int)) (h : f ≤ s.size) (w : World) : (Instr.slice 9 (.string s) (some (.int .i64 i)) none none).run Tryd.prog w = .ok (.string (mkS ((bl s).drop f))) w := by
  subst hf
  rw [run_slice_string_from_if (P := Tryd.prog) w 9 s .i64 (f : Int) Tryd.underlying9]
  have e : s.extract f s.size = mkS ((bl s).drop f) := by
    have := ByteArray.extract_mk (bl s) f s.size
    have e2 : ByteArray.mk (bl s).toArray = s := rfl
    rw [e2] at this
    rw [this, List.take_of_length_le (by rw [List.length_drop, bl_length]; omega)]
    rfl
  simp [h, e]

theorem head_at (l : List UInt8) (h : 0 < l.length) : l.head? = some (byteAt l 0) := by
  cases l with
  | nil => simp at h
  | cons c r => rfl
theorem neg_of (l : List UInt8) (h : 0 < l.length) : negT l = (byteAt l 0 == 45) := by
  unfold negT
  rw [head_at l h]
  rfl
theorem mag_pos {l : List UInt8} (h : negT l = false) : magT l = l := by unfold magT; rw [h]; simp
theorem mag_neg {l : List UInt8} (h : negT l = true) : magT l = l.drop 1 := by unfold magT; rw [h]; simp
theorem refW_bad {l : List UInt8} (h : magT l = [] ∨ 19 < (magT l).length ∨ ((magT l).head? = some 48 ∧ (1 < (magT l).length ∨ negT l = true))) : refW l = none := by
  unfold refW; rw [if_pos h]
theorem refW_nodig {l : List UInt8} (i : Nat) (hi : i < (magT l).length) (h : isDig ((magT l)[i]) = false) : refW l = none := by
  unfold refW
  split
  · rfl
  · rw [if_neg]
    intro e
    rw [List.all_eq_true] at e
    have := e _ (List.getElem_mem hi)
    rw [h] at this
    cases this
theorem refW_pos {l : List UInt8} (hn : negT l = false) (h0 : 0 < l.length) (h1 : l.length ≤ 19) (hz : byteAt l 0 = 48 → l.length = 1) (hd : l.all isDig = true) : refW l = if decV l < 2 ^ 63 then some (decV l : Int) else none := by
  unfold refW
  rw [mag_pos hn, if_neg, if_pos hd, hn]
  · rfl
  · rintro (e | e | e)
    · rw [e] at h0; simp at h0
    · omega
    · rw [head_at l h0] at e
      have := hz (Option.some.inj e.1)
      rcases e.2 with k | k
      · omega
      · rw [hn] at k; cases k
theorem refW_neg {l : List UInt8} (hn : negT l = true) (h0 : 0 < (l.drop 1).length) (h1 : (l.drop 1).length ≤ 19) (hz : ¬ byteAt (l.drop 1) 0 = 48) (hd : (l.drop 1).all isDig = true) : refW l = if decV (l.drop 1) ≤ 2 ^ 63 then some (-(decV (l.drop 1) : Int)) else none := by
  unfold refW
  rw [mag_neg hn, if_neg, if_pos hd, hn]
  · rfl
  · rintro (e | e | e)
    · rw [e] at h0; simp at h0
    · omega
    · rw [head_at _ h0] at e
      exact hz (Option.some.inj e.1)
theorem dig_step (A x : Nat) (hA : A < 1000000000000000000) (h0 : 48 ≤ x) (h1 : x ≤ 57) : IntKind.u64.wrap (IntKind.u64.wrap (10 * (A : Int)) + ((x : Int) - 48)) = ((10 * A + (x - 48) : Nat) : Int) := by
  unfold IntKind.wrap
  simp [IntKind.signed, IntKind.bits]
  omega
theorem neg_mag (A : Nat) (h : A ≤ 9223372036854775808) : wrap64 (IntKind.u64.wrap (-(A : Int))) = -(A : Int) := by
  unfold wrap64 IntKind.wrap
  simp [IntKind.signed, IntKind.bits]
  omega

set_option maxHeartbeats 1000000 in
set_option maxRecDepth 100000 in
theorem rWhole_none (w : World) (s : ByteArray) (h : s.size = 0) :
    Calls Tryd.prog 20 #[.string s] w fun e w' => e = .returned (.tuple #[.int .i64 0, .bool false]) ∧ w' = w := by
  go_enter Tryd.func20, Tryd.ntmps20
  go_wp2
  go_ret2
  exact ⟨rfl, rfl⟩

set_option maxHeartbeats 1000000 in
set_option maxRecDepth 100000 in
theorem rWhole_posLong (w : World) (s : ByteArray) (n : Nat) (hn : s.size = n) (h0 : 19 < n) (hh : ¬ byteAt (bl s) 0 = 45) :
    Calls Tryd.prog 20 #[.string s] w fun e w' => e = .returned (.tuple #[.int .i64 ((refW (bl s)).getD 0), .bool (refW (bl s)).isSome]) ∧ w' = w := by
  have HL : Hid ((bl s).length = n) := (bl_length s).trans hn
  have hx := run_idx s 0 0 rfl (by omega) w
  have hne : ¬ ((byteAt (bl s) 0).toNat : Int) = 45 := fun e => hh (UInt8.toNat_inj.1 (by simp; omega))
  have HN : Hid (negT (bl s) = false) := by
    show negT (bl s) = false
    rw [neg_of _ (by rw [HL.out]; omega)]
    simpa using hh
  clear hh
  have HR : Hid (refW (bl s) = none) := refW_bad (Or.inr (Or.inl (by rw [mag_pos HN.out, HL.out]; exact h0)))
  have h0' : (19 : Int) < (n : Int) := by omega
  have h00 : (0 : Int) < (n : Int) := by omega
  have hnz : ¬ n = 0 := by omega
  have hnz' : ¬ (n : Int) = 0 := by omega
  have hbn : ((n : Int) == 0) = false := by simp; omega
  generalize ((byteAt (bl s) 0).toNat : Int) = x at hx hne
  go_enter Tryd.func20, Tryd.ntmps20
  go_wp2
  go_ret2
  rw [HR.out]
  exact ⟨rfl, rfl⟩

set_option maxHeartbeats 1000000 in
set_option maxRecDepth 100000 in
theorem rWhole_posNought (w : World) (s : ByteArray) (n : Nat) (hn : s.size = n) (h0 : 1 < n) (h1 : n ≤ 19) (hh : ¬ byteAt (bl s) 0 = 45) (hz : byteAt (bl s) 0 = 48) :
    Calls Tryd.prog 20 #[.string s] w fun e w' => e = .returned (.tuple #[.int .i64 ((refW (bl s)).getD 0), .bool (refW (bl s)).isSome]) ∧ w' = w := by
  have HL : Hid ((bl s).length = n) := (bl_length s).trans hn
  have hx := run_idx s 0 0 rfl (by omega) w
  have hne : ¬ ((byteAt (bl s) 0).toNat : Int) = 45 := fun e => hh (UInt8.toNat_inj.1 (by simp; omega))
  have HN : Hid (negT (bl s) = false) := by
    show negT (bl s) = false
    rw [neg_of _ (by rw [HL.out]; omega)]
    simpa using hh
  clear hh
  have HR : Hid (refW (bl s) = none) := refW_bad (Or.inr (Or.inr ⟨by rw [mag_pos HN.out, head_at _ (by rw [HL.out]; omega), hz], Or.inl (by rw [mag_pos HN.out, HL.out]; exact h0)⟩))
  have h0' : (1 : Int) < (n : Int) := by omega
  have h1' : (n : Int) ≤ 19 := by omega
  have h00 : (0 : Int) < (n : Int) := by omega
  have hnz : ¬ n = 0 := by omega
  have hnz' : ¬ (n : Int) = 0 := by omega
  have hbn : ((n : Int) == 0) = false := by simp; omega
  rw [hz] at hx
  have e48 : (((48 : UInt8).toNat : Nat) : Int) = 48 := rfl
  rw [e48] at hx
  clear e48 hz hne
  go_enter Tryd.func20, Tryd.ntmps20
  go_wp2
  go_ret2
  rw [HR.out]
  exact ⟨rfl, rfl⟩

set_option maxHeartbeats 1000000 in
set_option maxRecDepth 100000 in
theorem rWhole_posOne (w : World) (s : ByteArray) (n : Nat) (hn : s.size = n) (h0 : 1 = n) (hh : ¬ byteAt (bl s) 0 = 45) (hz : byteAt (bl s) 0 = 48) :
    Calls Tryd.prog 20 #[.string s] w fun e w' => e = .returned (.tuple #[.int .i64 ((refW (bl s)).getD 0), .bool (refW (bl s)).isSome]) ∧ w' = w := by
  have HL : Hid ((bl s).length = n) := (bl_length s).trans hn
  have hx := run_idx s 0 0 rfl (by omega) w
  have hne : ¬ ((byteAt (bl s) 0).toNat : Int) = 45 := fun e => hh (UInt8.toNat_inj.1 (by simp; omega))
  have HN : Hid (negT (bl s) = false) := by
    show negT (bl s) = false
    rw [neg_of _ (by rw [HL.out]; omega)]
    simpa using hh
  clear hh
  have HM : Hid ((bl s).length = n) := HL
  have HMag : Hid (magT (bl s) = bl s) := mag_pos HN.out
  have HZ : Hid (byteAt (bl s) 0 = 48 → (bl s).length = 1) := fun _ => by rw [HL.out]; exact h0.symm
  rw [hz] at hx
  have e48 : (((48 : UInt8).toNat : Nat) : Int) = 48 := rfl
  rw [e48] at hx
  clear e48 hz hne
  have h1' : (n : Int) ≤ 1 := by omega
  have h2' : ¬ (1 : Int) < (n : Int) := by omega
  have h2'' : ¬ 1 < n := by omega
  have h00 : (0 : Int) < (n : Int) := by omega
  have hnz : ¬ n = 0 := by omega
  have hnz' : ¬ (n : Int) = 0 := by omega
  have hbn : ((n : Int) == 0) = false := by simp; omega
  have H1 : Hid (1 = n) := h0
  clear h0
  go_enter Tryd.func20, Tryd.ntmps20
  go_wp2
  go_loopw [6, 7] (fun v i wr => ∃ j : Nat, j ≤ n ∧ i = .int .i64 j ∧ v = .int .u64 (decV ((bl s).take j)) ∧ ((bl s).take j).all isDig = true ∧ wr = w) (fun _ i _ => n - (intOf i).toNat)
  case atStart => exact ⟨0, by omega, rfl, rfl, rfl, rfl⟩
  case round =>
    obtain ⟨j, hj, rfl, rfl, hd, rfl⟩ := hrel
    have HD : Hid (((bl s).take j).all isDig = true) := hd
    clear hd
    have hA : Hid (decV ((bl s).take j) < 10 ^ j) := by
      have h1 := decV_lt ((bl s).take j) HD.out
      rw [List.length_take, HM.out, Nat.min_eq_left (by omega)] at h1
      exact h1
    by_cases hlt : j < n
    · have hlt' : (j : Int) < (n : Int) := by omega
      have hj0 : (0 : Int) ≤ (j : Int) := by omega
      have g1 : j < (bl s).length := by rw [HM.out]; exact hlt
      have hy := run_idx s (j : Int) j rfl (by rw [← bl_length]; exact g1) wr
      have ey : (byteAt (bl s) j) = (bl s)[j] := by exact byteAt_lt g1
      rw [ey] at hy
      clear ey
      obtain ⟨y, HY⟩ : ∃ y : Int, Hid ((((bl s)[j]).toNat : Int) = y) := ⟨(((bl s)[j]).toNat : Int), rfl⟩
      rw [HY.out] at hy
      obtain ⟨A, HA⟩ : ∃ A : Int, Hid ((decV ((bl s).take j) : Int) = A) := ⟨_, rfl⟩
      rw [HA.out]
      by_cases hd : isDig ((bl s)[j]) = true
      · have hb := (isDig_iff _).1 hd
        have y0 : (48 : Int) ≤ y := by rw [← HY.out]; omega
        have y1 : y ≤ 57 := by rw [← HY.out]; omega
        have HDg : Hid (isDig ((bl s)[j]) = true) := hd
        have HBb : Hid (48 ≤ ((bl s)[j]).toNat ∧ ((bl s)[j]).toNat ≤ 57) := hb
        clear hd hb
        go_wp2
        refine ⟨⟨j + 1, by omega, by go_num, ?_, ?_, trivial⟩, by simp [intOf]; omega⟩
        · rw [← HA.out, ← HY.out, List.take_succ_eq_append_getElem g1, decV_snoc]
          have hj18 : 10 ^ j ≤ 10 ^ 18 := Nat.pow_le_pow_right (by omega) (by omega)
          have hA' := hA.out
          congr 1
          exact dig_step (decV ((bl s).take j)) ((bl s)[j]).toNat (by omega) HBb.out.1 HBb.out.2
        · rw [List.take_succ_eq_append_getElem g1, List.all_append, HD.out]
          simpa using HDg.out
      · have hd' : isDig ((bl s)[j]) = false := by simpa using hd
        have HR : Hid (refW (bl s) = none) := by
          have hm : magT (bl s) = bl s := HMag.out
          exact refW_nodig j (by rw [hm]; exact g1) (by simp only [hm]; exact hd')
        have hb : y < 48 ∨ (48 ≤ y ∧ 57 < y) := by
          have h3 : ¬ (48 ≤ ((bl s)[j]).toNat ∧ ((bl s)[j]).toNat ≤ 57) := fun e => hd ((isDig_iff _).2 e)
          rw [← HY.out]
          omega
        clear hd hd'
        rcases hb with hb | ⟨hb, hb2⟩
        · go_wp2
          go_ret2
          rw [HR.out]
          exact ⟨rfl, rfl⟩
        · go_wp2
          go_ret2
          rw [HR.out]
          exact ⟨rfl, rfl⟩
    · obtain rfl : j = n := by omega
      have HT : Hid ((bl s).take j = bl s) := List.take_of_length_le (by rw [HM.out]; omega)
      have HAll : Hid ((bl s).all isDig = true) := by have := HD.out; rw [HT.out] at this; exact this
      rw [HT.out]
      have HR := refW_pos HN.out (by rw [HL.out]; omega) (by rw [HL.out]; omega) HZ.out HAll.out
      by_cases hle : decV (bl s) < 9223372036854775808
      · rw [if_pos (by omega)] at HR
        have HR2 : Hid (refW (bl s) = some (decV (bl s) : Int)) := HR
        clear HR
        have HX : Hid (decV (bl s) < 9223372036854775808) := hle
        have hle' : (decV (bl s) : Int) < 9223372036854775808 := by omega
        have hge' : (0 : Int) ≤ (decV (bl s) : Int) := by omega
        obtain ⟨A, HA⟩ : ∃ A : Int, Hid ((decV (bl s) : Int) = A) := ⟨_, rfl⟩
        rw [HA.out] at hle' hge'
        rw [HA.out]
        clear hle
        go_wp2
        go_ret2
        rw [HR2.out]
        rw [← HA.out]
        exact ⟨rfl, rfl⟩
      · rw [if_neg (by omega)] at HR
        have HR2 : Hid (refW (bl s) = none) := HR
        clear HR
        have hle' : ¬ (decV (bl s) : Int) < 9223372036854775808 := by omega
        have hle2 : (9223372036854775808 : Int) ≤ (decV (bl s) : Int) := by omega
        obtain ⟨A, HA⟩ : ∃ A : Int, Hid ((decV (bl s) : Int) = A) := ⟨_, rfl⟩
        rw [HA.out] at hle' hle2
        rw [HA.out]
        clear hle
        go_wp2
        go_ret2
        rw [HR2.out]
        exact ⟨rfl, rfl⟩

set_option maxHeartbeats 1000000 in
set_option maxRecDepth 100000 in
theorem rWhole_pos (w : World) (s : ByteArray) (n : Nat) (hn : s.size = n) (h0 : 0 < n) (h1 : n ≤ 19) (hh : ¬ byteAt (bl s) 0 = 45) (hz : ¬ byteAt (bl s) 0 = 48) :
    Calls Tryd.prog 20 #[.string s] w fun e w' => e = .returned (.tuple #[.int .i64 ((refW (bl s)).getD 0), .bool (refW (bl s)).isSome]) ∧ w' = w := by
  have HL : Hid ((bl s).length = n) := (bl_length s).trans hn
  have hx := run_idx s 0 0 rfl (by omega) w
  have hne : ¬ ((byteAt (bl s) 0).toNat : Int) = 45 := fun e => hh (UInt8.toNat_inj.1 (by simp; omega))
  have HN : Hid (negT (bl s) = false) := by
    show negT (bl s) = false
    rw [neg_of _ (by rw [HL.out]; omega)]
    simpa using hh
  clear hh
  have HM : Hid ((bl s).length = n) := HL
  have HMag : Hid (magT (bl s) = bl s) := mag_pos HN.out
  have HZ : Hid (byteAt (bl s) 0 = 48 → (bl s).length = 1) := fun e => absurd e hz
  have hz' : ¬ ((byteAt (bl s) 0).toNat : Int) = 48 := fun e => hz (UInt8.toNat_inj.1 (by simp; omega))
  clear hz
  have h1' : (n : Int) ≤ 19 := by omega
  have h00 : (0 : Int) < (n : Int) := by omega
  have hnz : ¬ n = 0 := by omega
  have hnz' : ¬ (n : Int) = 0 := by omega
  have hbn : ((n : Int) == 0) = false := by simp; omega
  generalize ((byteAt (bl s) 0).toNat : Int) = x at hx hne hz'
  go_enter Tryd.func20, Tryd.ntmps20
  go_wp2
  go_loopw [6, 7] (fun v i wr => ∃ j : Nat, j ≤ n ∧ i = .int .i64 j ∧ v = .int .u64 (decV ((bl s).take j)) ∧ ((bl s).take j).all isDig = true ∧ wr = w) (fun _ i _ => n - (intOf i).toNat)
  case atStart => exact ⟨0, by omega, rfl, rfl, rfl, rfl⟩
  case round =>
    obtain ⟨j, hj, rfl, rfl, hd, rfl⟩ := hrel
    have HD : Hid (((bl s).take j).all isDig = true) := hd
    clear hd
    have hA : Hid (decV ((bl s).take j) < 10 ^ j) := by
      have h1 := decV_lt ((bl s).take j) HD.out
      rw [List.length_take, HM.out, Nat.min_eq_left (by omega)] at h1
      exact h1
    by_cases hlt : j < n
    · have hlt' : (j : Int) < (n : Int) := by omega
      have hj0 : (0 : Int) ≤ (j : Int) := by omega
      have g1 : j < (bl s).length := by rw [HM.out]; exact hlt
      have hy := run_idx s (j : Int) j rfl (by rw [← bl_length]; exact g1) wr
      have ey : (byteAt (bl s) j) = (bl s)[j] := by exact byteAt_lt g1
      rw [ey] at hy
      clear ey
      obtain ⟨y, HY⟩ : ∃ y : Int, Hid ((((bl s)[j]).toNat : Int) = y) := ⟨(((bl s)[j]).toNat : Int), rfl⟩
      rw [HY.out] at hy
      obtain ⟨A, HA⟩ : ∃ A : Int, Hid ((decV ((bl s).take j) : Int) = A) := ⟨_, rfl⟩
      rw [HA.out]
      by_cases hd : isDig ((bl s)[j]) = true
      · have hb := (isDig_iff _).1 hd
        have y0 : (48 : Int) ≤ y := by rw [← HY.out]; omega
        have y1 : y ≤ 57 := by rw [← HY.out]; omega
        have HDg : Hid (isDig ((bl s)[j]) = true) := hd
        have HBb : Hid (48 ≤ ((bl s)[j]).toNat ∧ ((bl s)[j]).toNat ≤ 57) := hb
        clear hd hb
        go_wp2
        refine ⟨⟨j + 1, by omega, by go_num, ?_, ?_, trivial⟩, by simp [intOf]; omega⟩
        · rw [← HA.out, ← HY.out, List.take_succ_eq_append_getElem g1, decV_snoc]
          have hj18 : 10 ^ j ≤ 10 ^ 18 := Nat.pow_le_pow_right (by omega) (by omega)
          have hA' := hA.out
          congr 1
          exact dig_step (decV ((bl s).take j)) ((bl s)[j]).toNat (by omega) HBb.out.1 HBb.out.2
        · rw [List.take_succ_eq_append_getElem g1, List.all_append, HD.out]
          simpa using HDg.out
      · have hd' : isDig ((bl s)[j]) = false := by simpa using hd
        have HR : Hid (refW (bl s) = none) := by
          have hm : magT (bl s) = bl s := HMag.out
          exact refW_nodig j (by rw [hm]; exact g1) (by simp only [hm]; exact hd')
        have hb : y < 48 ∨ (48 ≤ y ∧ 57 < y) := by
          have h3 : ¬ (48 ≤ ((bl s)[j]).toNat ∧ ((bl s)[j]).toNat ≤ 57) := fun e => hd ((isDig_iff _).2 e)
          rw [← HY.out]
          omega
        clear hd hd'
        rcases hb with hb | ⟨hb, hb2⟩
        · go_wp2
          go_ret2
          rw [HR.out]
          exact ⟨rfl, rfl⟩
        · go_wp2
          go_ret2
          rw [HR.out]
          exact ⟨rfl, rfl⟩
    · obtain rfl : j = n := by omega
      have HT : Hid ((bl s).take j = bl s) := List.take_of_length_le (by rw [HM.out]; omega)
      have HAll : Hid ((bl s).all isDig = true) := by have := HD.out; rw [HT.out] at this; exact this
      rw [HT.out]
      have HR := refW_pos HN.out (by rw [HL.out]; omega) (by rw [HL.out]; omega) HZ.out HAll.out
      by_cases hle : decV (bl s) < 9223372036854775808
      · rw [if_pos (by omega)] at HR
        have HR2 : Hid (refW (bl s) = some (decV (bl s) : Int)) := HR
        clear HR
        have HX : Hid (decV (bl s) < 9223372036854775808) := hle
        have hle' : (decV (bl s) : Int) < 9223372036854775808 := by omega
        have hge' : (0 : Int) ≤ (decV (bl s) : Int) := by omega
        obtain ⟨A, HA⟩ : ∃ A : Int, Hid ((decV (bl s) : Int) = A) := ⟨_, rfl⟩
        rw [HA.out] at hle' hge'
        rw [HA.out]
        clear hle
        go_wp2
        go_ret2
        rw [HR2.out]
        rw [← HA.out]
        exact ⟨rfl, rfl⟩
      · rw [if_neg (by omega)] at HR
        have HR2 : Hid (refW (bl s) = none) := HR
        clear HR
        have hle' : ¬ (decV (bl s) : Int) < 9223372036854775808 := by omega
        have hle2 : (9223372036854775808 : Int) ≤ (decV (bl s) : Int) := by omega
        obtain ⟨A, HA⟩ : ∃ A : Int, Hid ((decV (bl s) : Int) = A) := ⟨_, rfl⟩
        rw [HA.out] at hle' hle2
        rw [HA.out]
        clear hle
        go_wp2
        go_ret2
        rw [HR2.out]
        exact ⟨rfl, rfl⟩

set_option maxHeartbeats 1000000 in
set_option maxRecDepth 100000 in
theorem rWhole_negNone (w : World) (s : ByteArray) (n : Nat) (hn : s.size = n) (h0 : n = 1) (hh : byteAt (bl s) 0 = 45) :
    Calls Tryd.prog 20 #[.string s] w fun e w' => e = .returned (.tuple #[.int .i64 ((refW (bl s)).getD 0), .bool (refW (bl s)).isSome]) ∧ w' = w := by
  have HL : Hid ((bl s).length = n) := (bl_length s).trans hn
  have hx := run_idx s 0 0 rfl (by omega) w
  rw [hh] at hx
  have e45 : (((45 : UInt8).toNat : Nat) : Int) = 45 := rfl
  rw [e45] at hx
  have HN : Hid (negT (bl s) = true) := by
    show negT (bl s) = true
    rw [neg_of _ (by rw [HL.out]; omega), hh]
    rfl
  clear hh e45
  have HMag : Hid (magT (bl s) = (bl s).drop 1) := mag_neg HN.out
  have h00 : (0 : Int) < (n : Int) := by omega
  have hnz : ¬ n = 0 := by omega
  have htl := run_tail s 1 1 rfl (by omega) w
  obtain ⟨d, HB⟩ : ∃ d : ByteArray, Hid (bl d = (bl s).drop 1) := ⟨mkS ((bl s).drop 1), rfl⟩
  have ed : mkS ((bl s).drop 1) = d := by rw [← HB.out]; rfl
  rw [ed] at htl
  clear ed
  obtain ⟨m, hm⟩ : ∃ m, n = m + 1 := ⟨n - 1, by omega⟩
  have HM : Hid (((bl s).drop 1).length = m) := by show _ = _; rw [List.length_drop, HL.out]; omega
  have hds : d.size = m := by rw [← bl_length, HB.out]; exact HM.out
  have HDL : Hid (((bl s).drop 1).length = (bl d).length) := by show _ = _; rw [HB.out]
  obtain rfl : m = 0 := by omega
  have HR : Hid (refW (bl s) = none) := refW_bad (Or.inl (by rw [HMag.out]; exact List.eq_nil_of_length_eq_zero HM.out))
  clear hm
  go_enter Tryd.func20, Tryd.ntmps20
  go_wp2
  go_ret2
  rw [HR.out]
  exact ⟨rfl, rfl⟩

set_option maxHeartbeats 1000000 in
set_option maxRecDepth 100000 in
theorem rWhole_negLong (w : World) (s : ByteArray) (n : Nat) (hn : s.size = n) (h0 : 20 < n) (hh : byteAt (bl s) 0 = 45) :
    Calls Tryd.prog 20 #[.string s] w fun e w' => e = .returned (.tuple #[.int .i64 ((refW (bl s)).getD 0), .bool (refW (bl s)).isSome]) ∧ w' = w := by
  have HL : Hid ((bl s).length = n) := (bl_length s).trans hn
  have hx := run_idx s 0 0 rfl (by omega) w
  rw [hh] at hx
  have e45 : (((45 : UInt8).toNat : Nat) : Int) = 45 := rfl
  rw [e45] at hx
  have HN : Hid (negT (bl s) = true) := by
    show negT (bl s) = true
    rw [neg_of _ (by rw [HL.out]; omega), hh]
    rfl
  clear hh e45
  have HMag : Hid (magT (bl s) = (bl s).drop 1) := mag_neg HN.out
  have h00 : (0 : Int) < (n : Int) := by omega
  have hnz : ¬ n = 0 := by omega
  have htl := run_tail s 1 1 rfl (by omega) w
  obtain ⟨d, HB⟩ : ∃ d : ByteArray, Hid (bl d = (bl s).drop 1) := ⟨mkS ((bl s).drop 1), rfl⟩
  have ed : mkS ((bl s).drop 1) = d := by rw [← HB.out]; rfl
  rw [ed] at htl
  clear ed
  obtain ⟨m, hm⟩ : ∃ m, n = m + 1 := ⟨n - 1, by omega⟩
  have HM : Hid (((bl s).drop 1).length = m) := by show _ = _; rw [List.length_drop, HL.out]; omega
  have hds : d.size = m := by rw [← bl_length, HB.out]; exact HM.out
  have HDL : Hid (((bl s).drop 1).length = (bl d).length) := by show _ = _; rw [HB.out]
  have HR : Hid (refW (bl s) = none) := refW_bad (Or.inr (Or.inl (by rw [HMag.out, HM.out]; omega)))
  have m0 : (19 : Int) < (m : Int) := by omega
  have m1 : ¬ m = 0 := by omega
  have m2 : ¬ (m : Int) = 0 := by omega
  have mbn : ((m : Int) == 0) = false := by simp; omega
  clear hm
  go_enter Tryd.func20, Tryd.ntmps20
  go_wp2
  go_ret2
  rw [HR.out]
  exact ⟨rfl, rfl⟩

set_option maxHeartbeats 1000000 in
set_option maxRecDepth 100000 in
theorem rWhole_negNought (w : World) (s : ByteArray) (n : Nat) (hn : s.size = n) (h0 : 1 < n) (h1 : n ≤ 20) (hh : byteAt (bl s) 0 = 45) (hz : byteAt ((bl s).drop 1) 0 = 48) :
    Calls Tryd.prog 20 #[.string s] w fun e w' => e = .returned (.tuple #[.int .i64 ((refW (bl s)).getD 0), .bool (refW (bl s)).isSome]) ∧ w' = w := by
  have HL : Hid ((bl s).length = n) := (bl_length s).trans hn
  have hx := run_idx s 0 0 rfl (by omega) w
  rw [hh] at hx
  have e45 : (((45 : UInt8).toNat : Nat) : Int) = 45 := rfl
  rw [e45] at hx
  have HN : Hid (negT (bl s) = true) := by
    show negT (bl s) = true
    rw [neg_of _ (by rw [HL.out]; omega), hh]
    rfl
  clear hh e45
  have HMag : Hid (magT (bl s) = (bl s).drop 1) := mag_neg HN.out
  have h00 : (0 : Int) < (n : Int) := by omega
  have hnz : ¬ n = 0 := by omega
  have htl := run_tail s 1 1 rfl (by omega) w
  obtain ⟨d, HB⟩ : ∃ d : ByteArray, Hid (bl d = (bl s).drop 1) := ⟨mkS ((bl s).drop 1), rfl⟩
  have ed : mkS ((bl s).drop 1) = d := by rw [← HB.out]; rfl
  rw [ed] at htl
  clear ed
  obtain ⟨m, hm⟩ : ∃ m, n = m + 1 := ⟨n - 1, by omega⟩
  have HM : Hid (((bl s).drop 1).length = m) := by show _ = _; rw [List.length_drop, HL.out]; omega
  have hds : d.size = m := by rw [← bl_length, HB.out]; exact HM.out
  have HDL : Hid (((bl s).drop 1).length = (bl d).length) := by show _ = _; rw [HB.out]
  have HR : Hid (refW (bl s) = none) := refW_bad (Or.inr (Or.inr ⟨by rw [HMag.out, head_at _ (by rw [HM.out]; omega), hz], Or.inr HN.out⟩))
  have m0 : (m : Int) ≤ 19 := by omega
  have m1 : ¬ m = 0 := by omega
  have m2 : ¬ (m : Int) = 0 := by omega
  have mbn : ((m : Int) == 0) = false := by simp; omega
  have hy := run_idx d 0 0 rfl (by omega) w
  rw [HB.out, hz] at hy
  have e48 : (((48 : UInt8).toNat : Nat) : Int) = 48 := rfl
  rw [e48] at hy
  clear e48 hz hm
  go_enter Tryd.func20, Tryd.ntmps20
  go_wp2
  all_goals (go_ret2; rw [HR.out]; exact ⟨rfl, rfl⟩)

set_option maxHeartbeats 1000000 in
set_option maxRecDepth 100000 in
theorem rWhole_neg (w : World) (s : ByteArray) (n : Nat) (hn : s.size = n) (h0 : 1 < n) (h1 : n ≤ 20) (hh : byteAt (bl s) 0 = 45) (hz : ¬ byteAt ((bl s).drop 1) 0 = 48) :
    Calls Tryd.prog 20 #[.string s] w fun e w' => e = .returned (.tuple #[.int .i64 ((refW (bl s)).getD 0), .bool (refW (bl s)).isSome]) ∧ w' = w := by
  have HL : Hid ((bl s).length = n) := (bl_length s).trans hn
  have hx := run_idx s 0 0 rfl (by omega) w
  rw [hh] at hx
  have e45 : (((45 : UInt8).toNat : Nat) : Int) = 45 := rfl
  rw [e45] at hx
  have HN : Hid (negT (bl s) = true) := by
    show negT (bl s) = true
    rw [neg_of _ (by rw [HL.out]; omega), hh]
    rfl
  clear hh e45
  have HMag : Hid (magT (bl s) = (bl s).drop 1) := mag_neg HN.out
  have h00 : (0 : Int) < (n : Int) := by omega
  have hnz : ¬ n = 0 := by omega
  have htl := run_tail s 1 1 rfl (by omega) w
  obtain ⟨d, HB⟩ : ∃ d : ByteArray, Hid (bl d = (bl s).drop 1) := ⟨mkS ((bl s).drop 1), rfl⟩
  have ed : mkS ((bl s).drop 1) = d := by rw [← HB.out]; rfl
  rw [ed] at htl
  clear ed
  obtain ⟨m, hm⟩ : ∃ m, n = m + 1 := ⟨n - 1, by omega⟩
  have HM : Hid (((bl s).drop 1).length = m) := by show _ = _; rw [List.length_drop, HL.out]; omega
  have hds : d.size = m := by rw [← bl_length, HB.out]; exact HM.out
  have HDL : Hid (((bl s).drop 1).length = (bl d).length) := by show _ = _; rw [HB.out]
  have HZ : Hid (¬ byteAt ((bl s).drop 1) 0 = 48) := hz
  have m0 : (m : Int) ≤ 19 := by omega
  have m1 : ¬ m = 0 := by omega
  have m2 : ¬ (m : Int) = 0 := by omega
  have mbn : ((m : Int) == 0) = false := by simp; omega
  have hy := run_idx d 0 0 rfl (by omega) w
  rw [HB.out] at hy
  have hz' : ¬ ((byteAt ((bl s).drop 1) 0).toNat : Int) = 48 := fun e => hz (UInt8.toNat_inj.1 (by have h48 : (48 : UInt8).toNat = 48 := rfl; omega))
  generalize ((byteAt ((bl s).drop 1) 0).toNat : Int) = x at hy hz'
  clear hz hm
  go_enter Tryd.func20, Tryd.ntmps20
  go_wp2
  go_loopw [6, 7] (fun v i wr => ∃ j : Nat, j ≤ m ∧ i = .int .i64 j ∧ v = .int .u64 (decV (((bl s).drop 1).take j)) ∧ (((bl s).drop 1).take j).all isDig = true ∧ wr = w) (fun _ i _ => m - (intOf i).toNat)
  case atStart => exact ⟨0, by omega, rfl, rfl, rfl, rfl⟩
  case round =>
    obtain ⟨j, hj, rfl, rfl, hd, rfl⟩ := hrel
    have HD : Hid ((((bl s).drop 1).take j).all isDig = true) := hd
    clear hd
    have hA : Hid (decV (((bl s).drop 1).take j) < 10 ^ j) := by
      have h1 := decV_lt (((bl s).drop 1).take j) HD.out
      rw [List.length_take, HM.out, Nat.min_eq_left (by omega)] at h1
      exact h1
    by_cases hlt : j < m
    · have hlt' : (j : Int) < (m : Int) := by omega
      have hj0 : (0 : Int) ≤ (j : Int) := by omega
      have g1 : j < ((bl s).drop 1).length := by rw [HM.out]; exact hlt
      have hy := run_idx d (j : Int) j rfl (by rw [← bl_length]; exact Nat.lt_of_lt_of_eq g1 HDL.out) wr
      have ey : (byteAt (bl d) j) = ((bl s).drop 1)[j] := by rw [HB.out]; exact byteAt_lt g1
      rw [ey] at hy
      clear ey
      obtain ⟨y, HY⟩ : ∃ y : Int, Hid (((((bl s).drop 1)[j]).toNat : Int) = y) := ⟨((((bl s).drop 1)[j]).toNat : Int), rfl⟩
      rw [HY.out] at hy
      obtain ⟨A, HA⟩ : ∃ A : Int, Hid ((decV (((bl s).drop 1).take j) : Int) = A) := ⟨_, rfl⟩
      rw [HA.out]
      by_cases hd : isDig (((bl s).drop 1)[j]) = true
      · have hb := (isDig_iff _).1 hd
        have y0 : (48 : Int) ≤ y := by rw [← HY.out]; omega
        have y1 : y ≤ 57 := by rw [← HY.out]; omega
        have HDg : Hid (isDig (((bl s).drop 1)[j]) = true) := hd
        have HBb : Hid (48 ≤ (((bl s).drop 1)[j]).toNat ∧ (((bl s).drop 1)[j]).toNat ≤ 57) := hb
        clear hd hb
        go_wp2
        refine ⟨⟨j + 1, by omega, by go_num, ?_, ?_, trivial⟩, by simp [intOf]; omega⟩
        · rw [← HA.out, ← HY.out, List.take_succ_eq_append_getElem g1, decV_snoc]
          have hj18 : 10 ^ j ≤ 10 ^ 18 := Nat.pow_le_pow_right (by omega) (by omega)
          have hA' := hA.out
          congr 1
          exact dig_step (decV (((bl s).drop 1).take j)) (((bl s).drop 1)[j]).toNat (by omega) HBb.out.1 HBb.out.2
        · rw [List.take_succ_eq_append_getElem g1, List.all_append, HD.out]
          simpa using HDg.out
      · have hd' : isDig (((bl s).drop 1)[j]) = false := by simpa using hd
        have HR : Hid (refW (bl s) = none) := by
          have hm : magT (bl s) = (bl s).drop 1 := HMag.out
          exact refW_nodig j (by rw [hm]; exact g1) (by simp only [hm]; exact hd')
        have hb : y < 48 ∨ (48 ≤ y ∧ 57 < y) := by
          have h3 : ¬ (48 ≤ (((bl s).drop 1)[j]).toNat ∧ (((bl s).drop 1)[j]).toNat ≤ 57) := fun e => hd ((isDig_iff _).2 e)
          rw [← HY.out]
          omega
        clear hd hd'
        rcases hb with hb | ⟨hb, hb2⟩
        · go_wp2
          go_ret2
          rw [HR.out]
          exact ⟨rfl, rfl⟩
        · go_wp2
          go_ret2
          rw [HR.out]
          exact ⟨rfl, rfl⟩
    · obtain rfl : j = m := by omega
      have HT : Hid (((bl s).drop 1).take j = (bl s).drop 1) := List.take_of_length_le (by rw [HM.out]; omega)
      have HAll : Hid (((bl s).drop 1).all isDig = true) := by have := HD.out; rw [HT.out] at this; exact this
      rw [HT.out]
      have HR := refW_neg HN.out (by rw [HM.out]; omega) (by rw [HM.out]; omega) HZ.out HAll.out
      by_cases hle : decV ((bl s).drop 1) ≤ 9223372036854775808
      · rw [if_pos (by omega)] at HR
        have HR2 : Hid (refW (bl s) = some (-(decV ((bl s).drop 1) : Int))) := HR
        clear HR
        have HX : Hid (decV ((bl s).drop 1) ≤ 9223372036854775808) := hle
        have hle' : (decV ((bl s).drop 1) : Int) ≤ 9223372036854775808 := by omega
        have hge' : (0 : Int) ≤ (decV ((bl s).drop 1) : Int) := by omega
        obtain ⟨A, HA⟩ : ∃ A : Int, Hid ((decV ((bl s).drop 1) : Int) = A) := ⟨_, rfl⟩
        rw [HA.out] at hle' hge'
        rw [HA.out]
        clear hle
        go_wp2
        go_ret2
        rw [HR2.out]
        rw [← HA.out]
        exact ⟨by rw [neg_mag _ HX.out]; rfl, rfl⟩
      · rw [if_neg (by omega)] at HR
        have HR2 : Hid (refW (bl s) = none) := HR
        clear HR
        have hle' : ¬ (decV ((bl s).drop 1) : Int) ≤ 9223372036854775808 := by omega
        have hle2 : (9223372036854775808 : Int) < (decV ((bl s).drop 1) : Int) := by omega
        obtain ⟨A, HA⟩ : ∃ A : Int, Hid ((decV ((bl s).drop 1) : Int) = A) := ⟨_, rfl⟩
        rw [HA.out] at hle' hle2
        rw [HA.out]
        clear hle
        go_wp2
        go_ret2
        rw [HR2.out]
        exact ⟨rfl, rfl⟩

theorem rWhole_any (w : World) (s : ByteArray) :
    Calls Tryd.prog 20 #[.string s] w fun e w' => e = .returned (.tuple #[.int .i64 ((refW (bl s)).getD 0), .bool (refW (bl s)).isSome]) ∧ w' = w := by
  by_cases h0 : s.size = 0
  · have hr : refW (bl s) = none := by
      have hb : bl s = [] := List.eq_nil_of_length_eq_zero (by rw [bl_length]; exact h0)
      rw [hb]
      rfl
    rw [hr]
    exact rWhole_none w s h0
  · by_cases hh : byteAt (bl s) 0 = 45
    · by_cases h1 : s.size = 1
      · exact rWhole_negNone w s _ rfl h1 hh
      · by_cases h2 : 20 < s.size
        · exact rWhole_negLong w s _ rfl h2 hh
        · by_cases hz : byteAt ((bl s).drop 1) 0 = 48
          · exact rWhole_negNought w s _ rfl (by omega) (by omega) hh hz
          · exact rWhole_neg w s _ rfl (by omega) (by omega) hh hz
    · by_cases h2 : 19 < s.size
      · exact rWhole_posLong w s _ rfl h2 hh
      · by_cases hz : byteAt (bl s) 0 = 48
        · by_cases h1 : 1 < s.size
          · exact rWhole_posNought w s _ rfl h1 (by omega) hh hz
          · exact rWhole_posOne w s _ rfl (by omega) hh hz
        · exact rWhole_pos w s _ rfl (by omega) (by omega) hh hz

end Go.Proofs.YthaekjolbjmjfaaDoor
