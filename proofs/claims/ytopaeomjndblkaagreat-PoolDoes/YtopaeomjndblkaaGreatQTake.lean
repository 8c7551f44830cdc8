/-
  Numbers taken off a row: the program's take.
-/
import Derived.Test.YtopaeomjndblkaaGreatQWid
namespace Go.Proofs.YtopaeomjndblkaaGreat
open Go.RowKit Go.Maps

/-- A cell that holds a slice of bytes. -/
def SBox (w : World) (b : Nat) (v : Value) : Prop := w.heap[b]? = some (.cells #[v] 37)
theorem SBox.kept {w w' : World} {b : Nat} {v : Value} {L : List Nat} (h : SBox w b v) (f : Fr L w w') (hb : b ∉ L) : SBox w' b v := f.same hb h
theorem SBox.cell {w : World} {b : Nat} {v : Value} (h : SBox w b v) : w.cell? ⟨b, 0, none⟩ = some v := cell_of_row w b 0 _ _ _ h
theorem SBox.fz {w : World} {b : Nat} {v : Value} (h : SBox w b v) (j : Nat) : w.frozen? ⟨b, j, none⟩ = false := frozen_of_row w b j _ _ h
theorem SBox.lt {w : World} {b : Nat} {v : Value} (h : SBox w b v) : b < w.heap.size := (Array.getElem?_eq_some_iff.1 h).1
theorem SBox.set {w : World} {b : Nat} {v : Value} (h : SBox w b v) (u : Value) : SBox (w.setCell ⟨b, 0, none⟩ u) b u := by
  have := heap_setCell_same w b 0 _ _ u h
  simpa [SBox] using this

theorem BytesAt.sub {w : World} {g o : Nat} {l : List UInt8} (h : BytesAt w (some ⟨g, o, none⟩) l) (i m : Nat) : BytesAt w (some ⟨g, o + i, none⟩) ((l.drop i).take m) := by
  intro j v hv
  have hv2 : (arr l).toList[i + j]? = some v := by
    simp only [arr, List.getElem?_map, List.getElem?_take, List.getElem?_drop] at hv ⊢
    split at hv
    · exact hv
    · cases hv
  obtain ⟨b, off, e, hc⟩ := h (i + j) v hv2
  cases e
  exact ⟨g, o + i, rfl, by rw [Nat.add_assoc]; exact hc⟩
theorem take_at (c k g o : Nat) : ∃ o', Hid (c = k ∨ o' = o + k) ∧ (if c = k then some (⟨g, o, none⟩ : Addr) else some ⟨g, o + k, none⟩) = some ⟨g, o', none⟩ := by
  by_cases e : c = k
  · exact ⟨o, Or.inl e, by rw [if_pos e]⟩
  · exact ⟨o + k, Or.inr rfl, by rw [if_neg e]⟩
theorem take_end {w w1 : World} {b g o o' n c k : Nat} {l : List UInt8} (hx : SBox w1 b (.slice (some ⟨g, o, none⟩) n c)) (hb : BytesAt w1 (some ⟨g, o, none⟩) l) (f : Fr [] w w1) (hg : g ≠ b) (hk : k ≤ n) (hc : n ≤ c) (hl : l.length = n) (ho : Hid (c = k ∨ o' = o + k)) :
    ∃ o'', SBox (w1.setCell ⟨b, 0, none⟩ (.slice (some ⟨g, o', none⟩) (n - k) (c - k))).drew b (.slice (some ⟨g, o'', none⟩) (n - k) (c - k)) ∧ BytesAt (w1.setCell ⟨b, 0, none⟩ (.slice (some ⟨g, o', none⟩) (n - k) (c - k))).drew (some ⟨g, o'', none⟩) (l.drop k) ∧ Fr [b] w (w1.setCell ⟨b, 0, none⟩ (.slice (some ⟨g, o', none⟩) (n - k) (c - k))).drew := by
  have f2 : Fr [b] w1 (w1.setCell ⟨b, 0, none⟩ (.slice (some ⟨g, o', none⟩) (n - k) (c - k))).drew := ((Fr.refl [b] w1).setCell _ _ (fun _ => by simp)).drew
  have f3 := (f.mono (M := [b]) (fun _ _ e => nomatch e)).trans f2
  refine ⟨o', hx.set _, ?_, f3⟩
  rcases ho.out with e | rfl
  · have : l.drop k = [] := List.drop_eq_nil_of_le (by omega)
    rw [this]
    exact BytesAt.nil _ _
  · have := (hb.sub k (l.length - k)).kept f2 (fun b' off e => by cases e; simpa using hg)
    rwa [List.take_of_length_le (by simp)] at this

theorem ret_int {k : IntKind} {a b : Int} (h : a = b) : Ending.returned (.int k a) = .returned (.int k b) := by rw [h]
theorem u64_or_nat (a b : Nat) (ha : a < 18446744073709551616) (hb : b < 18446744073709551616) : bits .or .u64 (a : Int) (b : Int) = ((a ||| b : Nat) : Int) := by
  have hx : a ||| b < 2 ^ 64 := Nat.or_lt_two_pow (by omega) (by omega)
  show IntKind.u64.wrap ((BitVec.ofInt 64 (a : Int) ||| BitVec.ofInt 64 (b : Int)).toNat : Int) = _
  rw [BitVec.toNat_or, ofInt_u64 a (by omega), ofInt_u64 b (by omega)]
  unfold IntKind.wrap
  simp [IntKind.signed, IntKind.bits]
  omega
theorem or_low64 (A x : Nat) (hA : A < 72057594037927936) (hx : x < 256) : bits .or .u64 (IntKind.u64.wrap ((A : Int) * 256)) (IntKind.u64.wrap (x : Int)) = ((A * 256 + x : Nat) : Int) := by
  have e1 : IntKind.u64.wrap ((A : Int) * 256) = ((A * 256 : Nat) : Int) := by simp [IntKind.wrap, IntKind.signed, IntKind.bits]; omega
  have e2 : IntKind.u64.wrap (x : Int) = (x : Int) := by simp [IntKind.wrap, IntKind.signed, IntKind.bits]; omega
  rw [e1, e2, u64_or_nat _ _ (by omega) (by omega), nat_join 8 _ _ (by omega) (by omega)]

set_option maxHeartbeats 1000000 in
set_option maxRecDepth 100000 in
theorem take64_any (w : World) (b : Nat) (g o n c : Nat) (l : List UInt8) (hbox : SBox w b (.slice (some ⟨g, o, none⟩) n c)) (hl : l.length = n) (hk : 8 ≤ n) (hc : n ≤ c) (hb : BytesAt w (some ⟨g, o, none⟩) l) (hg : g ≠ b) :
    Calls Tryz.prog 260 #[.pointer (some ⟨b, 0, none⟩)] w fun e w' => e = .returned (.int .u64 (valL (l.take 8))) ∧ ∃ o', SBox w' b (.slice (some ⟨g, o', none⟩) (n - 8) (c - 8)) ∧ BytesAt w' (some ⟨g, o', none⟩) (l.drop 8) ∧ Fr [b] w w' := by
  have HL : Hid (l.length = n) := hl
  clear hl
  have hk' : (8 : Int) ≤ n := by omega
  have hc' : (n : Int) ≤ c := by omega
  have hkc : (8 : Int) ≤ c := by omega
  have hcell := hbox.cell
  have hfz := hbox.fz 0
  go_enter Tryz.func260, Tryz.ntmps260
  go_wp2
  go_quiet ((go_at_call 280; exact Calls.quiet_of_same (width64_any _)))
  have hb1 := hb.kept ((Fr.refl [] w).drewN nq) (by simp)
  have hx1 : SBox (w.drewN nq) b _ := hbox.kept ((Fr.refl [] w).drewN nq) (by simp)
  have f1 := (Fr.refl [] w).drewN nq
  generalize w.drewN nq = w1 at hb1 hx1 f1
  go_wp2
  go_loop [3, 12] (fun v i => ∃ j : Nat, j ≤ 8 ∧ i = .int .i64 j ∧ v = .int .u64 (valL (l.take j))) (fun _ i => 8 - (intOf i).toNat)
  case atStart => exact ⟨0, by omega, rfl, rfl⟩
  case round =>
    obtain ⟨j, hj, rfl, rfl⟩ := hrel
    have hA : Hid (valL (l.take j) < 256 ^ j) := by
      have h1 := valL_lt (l.take j)
      rw [List.length_take, HL.out, Nat.min_eq_left (by omega)] at h1
      exact h1
    by_cases hlt : j < 8
    · have hlt' : (j : Int) < 8 := by omega
      have g1 : j < l.length := by rw [HL.out]; omega
      obtain ⟨b1, o1, e1, q1⟩ := hb1 j (.int .u8 l[j].toNat) (by simp [arr, g1])
      cases e1
      obtain ⟨x, HX⟩ : ∃ x : Int, Hid ((l[j].toNat : Int) = x) := ⟨(l[j].toNat : Int), rfl⟩
      rw [HX.out] at q1
      obtain ⟨A, HA⟩ : ∃ A : Int, Hid ((valL (l.take j) : Int) = A) := ⟨_, rfl⟩
      rw [HA.out]
      go_wp2
      refine ⟨⟨j + 1, by omega, by go_num, ?_⟩, by simp [intOf]; omega⟩
      have hpw : 256 ^ j ≤ 256 ^ 7 := Nat.pow_le_pow_right (by omega) (by omega)
      have hA1 := hA.out
      rw [← HA.out, ← HX.out, or_low64 _ _ (by omega) (l[j].toNat_lt), List.take_succ_eq_append_getElem g1, valL_snoc]
    · obtain rfl : j = 8 := by omega
      have hcell1 := hx1.cell
      have hfz1 := hx1.fz 0
      obtain ⟨o2, HO, hdp⟩ := take_at c 8 g o
      go_wp2
      go_region_with (go_at_call 280; refine (width64_any _).mono ?_; rintro e w' ⟨rfl, rfl⟩)
      all_goals (
        go_wp2
        go_ret
        exact ⟨rfl, take_end hx1 hb1 f1 hg hk hc HL.out HO⟩)

set_option maxHeartbeats 1000000 in
set_option maxRecDepth 100000 in
theorem take32_any (w : World) (b : Nat) (g o n c : Nat) (l : List UInt8) (hbox : SBox w b (.slice (some ⟨g, o, none⟩) n c)) (hl : l.length = n) (hk : 4 ≤ n) (hc : n ≤ c) (hb : BytesAt w (some ⟨g, o, none⟩) l) (hg : g ≠ b) :
    Calls Tryz.prog 261 #[.pointer (some ⟨b, 0, none⟩)] w fun e w' => e = .returned (.int .u32 (valL (l.take 4))) ∧ ∃ o', SBox w' b (.slice (some ⟨g, o', none⟩) (n - 4) (c - 4)) ∧ BytesAt w' (some ⟨g, o', none⟩) (l.drop 4) ∧ Fr [b] w w' := by
  have HL : Hid (l.length = n) := hl
  clear hl
  have hk' : (4 : Int) ≤ n := by omega
  have hc' : (n : Int) ≤ c := by omega
  have hkc : (4 : Int) ≤ c := by omega
  have hcell := hbox.cell
  have hfz := hbox.fz 0
  go_enter Tryz.func261, Tryz.ntmps261
  go_wp2
  go_quiet ((go_at_call 281; exact Calls.quiet_of_same (width32_any _)))
  have hb1 := hb.kept ((Fr.refl [] w).drewN nq) (by simp)
  have hx1 : SBox (w.drewN nq) b _ := hbox.kept ((Fr.refl [] w).drewN nq) (by simp)
  have f1 := (Fr.refl [] w).drewN nq
  generalize w.drewN nq = w1 at hb1 hx1 f1
  go_wp2
  go_loop [3, 12] (fun v i => ∃ j : Nat, j ≤ 4 ∧ i = .int .i64 j ∧ v = .int .u64 (valL (l.take j))) (fun _ i => 4 - (intOf i).toNat)
  case atStart => exact ⟨0, by omega, rfl, rfl⟩
  case round =>
    obtain ⟨j, hj, rfl, rfl⟩ := hrel
    have hA : Hid (valL (l.take j) < 256 ^ j) := by
      have h1 := valL_lt (l.take j)
      rw [List.length_take, HL.out, Nat.min_eq_left (by omega)] at h1
      exact h1
    by_cases hlt : j < 4
    · have hlt' : (j : Int) < 4 := by omega
      have g1 : j < l.length := by rw [HL.out]; omega
      obtain ⟨b1, o1, e1, q1⟩ := hb1 j (.int .u8 l[j].toNat) (by simp [arr, g1])
      cases e1
      obtain ⟨x, HX⟩ : ∃ x : Int, Hid ((l[j].toNat : Int) = x) := ⟨(l[j].toNat : Int), rfl⟩
      rw [HX.out] at q1
      obtain ⟨A, HA⟩ : ∃ A : Int, Hid ((valL (l.take j) : Int) = A) := ⟨_, rfl⟩
      rw [HA.out]
      go_wp2
      refine ⟨⟨j + 1, by omega, by go_num, ?_⟩, by simp [intOf]; omega⟩
      have hpw : 256 ^ j ≤ 256 ^ 7 := Nat.pow_le_pow_right (by omega) (by omega)
      have hA1 := hA.out
      rw [← HA.out, ← HX.out, or_low64 _ _ (by omega) (l[j].toNat_lt), List.take_succ_eq_append_getElem g1, valL_snoc]
    · obtain rfl : j = 4 := by omega
      have hlt8 : (valL (l.take 4) : Int) < 4294967296 := by
        have h1 := hA.out
        simp only [Nat.reducePow] at h1
        omega
      have hcell1 := hx1.cell
      have hfz1 := hx1.fz 0
      obtain ⟨o2, HO, hdp⟩ := take_at c 4 g o
      go_wp2
      go_region_with (go_at_call 281; refine (width32_any _).mono ?_; rintro e w' ⟨rfl, rfl⟩)
      all_goals (
        go_wp2
        go_ret
        exact ⟨rfl, take_end hx1 hb1 f1 hg hk hc HL.out HO⟩)

set_option maxHeartbeats 1000000 in
set_option maxRecDepth 100000 in
theorem take16_any (w : World) (b : Nat) (g o n c : Nat) (l : List UInt8) (hbox : SBox w b (.slice (some ⟨g, o, none⟩) n c)) (hl : l.length = n) (hk : 2 ≤ n) (hc : n ≤ c) (hb : BytesAt w (some ⟨g, o, none⟩) l) (hg : g ≠ b) :
    Calls Tryz.prog 263 #[.pointer (some ⟨b, 0, none⟩)] w fun e w' => e = .returned (.int .u16 (valL (l.take 2))) ∧ ∃ o', SBox w' b (.slice (some ⟨g, o', none⟩) (n - 2) (c - 2)) ∧ BytesAt w' (some ⟨g, o', none⟩) (l.drop 2) ∧ Fr [b] w w' := by
  have HL : Hid (l.length = n) := hl
  clear hl
  have hk' : (2 : Int) ≤ n := by omega
  have hc' : (n : Int) ≤ c := by omega
  have hkc : (2 : Int) ≤ c := by omega
  have hcell := hbox.cell
  have hfz := hbox.fz 0
  go_enter Tryz.func263, Tryz.ntmps263
  go_wp2
  go_quiet ((go_at_call 282; exact Calls.quiet_of_same (width16_any _)))
  have hb1 := hb.kept ((Fr.refl [] w).drewN nq) (by simp)
  have hx1 : SBox (w.drewN nq) b _ := hbox.kept ((Fr.refl [] w).drewN nq) (by simp)
  have f1 := (Fr.refl [] w).drewN nq
  generalize w.drewN nq = w1 at hb1 hx1 f1
  go_wp2
  go_loop [3, 12] (fun v i => ∃ j : Nat, j ≤ 2 ∧ i = .int .i64 j ∧ v = .int .u64 (valL (l.take j))) (fun _ i => 2 - (intOf i).toNat)
  case atStart => exact ⟨0, by omega, rfl, rfl⟩
  case round =>
    obtain ⟨j, hj, rfl, rfl⟩ := hrel
    have hA : Hid (valL (l.take j) < 256 ^ j) := by
      have h1 := valL_lt (l.take j)
      rw [List.length_take, HL.out, Nat.min_eq_left (by omega)] at h1
      exact h1
    by_cases hlt : j < 2
    · have hlt' : (j : Int) < 2 := by omega
      have g1 : j < l.length := by rw [HL.out]; omega
      obtain ⟨b1, o1, e1, q1⟩ := hb1 j (.int .u8 l[j].toNat) (by simp [arr, g1])
      cases e1
      obtain ⟨x, HX⟩ : ∃ x : Int, Hid ((l[j].toNat : Int) = x) := ⟨(l[j].toNat : Int), rfl⟩
      rw [HX.out] at q1
      obtain ⟨A, HA⟩ : ∃ A : Int, Hid ((valL (l.take j) : Int) = A) := ⟨_, rfl⟩
      rw [HA.out]
      go_wp2
      refine ⟨⟨j + 1, by omega, by go_num, ?_⟩, by simp [intOf]; omega⟩
      have hpw : 256 ^ j ≤ 256 ^ 7 := Nat.pow_le_pow_right (by omega) (by omega)
      have hA1 := hA.out
      rw [← HA.out, ← HX.out, or_low64 _ _ (by omega) (l[j].toNat_lt), List.take_succ_eq_append_getElem g1, valL_snoc]
    · obtain rfl : j = 2 := by omega
      have hlt8 : (valL (l.take 2) : Int) < 65536 := by
        have h1 := hA.out
        simp only [Nat.reducePow] at h1
        omega
      have hcell1 := hx1.cell
      have hfz1 := hx1.fz 0
      obtain ⟨o2, HO, hdp⟩ := take_at c 2 g o
      go_wp2
      go_region_with (go_at_call 282; refine (width16_any _).mono ?_; rintro e w' ⟨rfl, rfl⟩)
      all_goals (
        go_wp2
        go_ret
        exact ⟨rfl, take_end hx1 hb1 f1 hg hk hc HL.out HO⟩)

set_option maxHeartbeats 1000000 in
set_option maxRecDepth 100000 in
theorem take8_any (w : World) (b : Nat) (g o n c : Nat) (l : List UInt8) (hbox : SBox w b (.slice (some ⟨g, o, none⟩) n c)) (hl : l.length = n) (hk : 1 ≤ n) (hc : n ≤ c) (hb : BytesAt w (some ⟨g, o, none⟩) l) (hg : g ≠ b) :
    Calls Tryz.prog 262 #[.pointer (some ⟨b, 0, none⟩)] w fun e w' => e = .returned (.int .u8 (valL (l.take 1))) ∧ ∃ o', SBox w' b (.slice (some ⟨g, o', none⟩) (n - 1) (c - 1)) ∧ BytesAt w' (some ⟨g, o', none⟩) (l.drop 1) ∧ Fr [b] w w' := by
  have HL : Hid (l.length = n) := hl
  clear hl
  have hk' : (1 : Int) ≤ n := by omega
  have hc' : (n : Int) ≤ c := by omega
  have hkc : (1 : Int) ≤ c := by omega
  have hcell := hbox.cell
  have hfz := hbox.fz 0
  go_enter Tryz.func262, Tryz.ntmps262
  go_wp2
  go_quiet ((go_at_call 283; exact Calls.quiet_of_same (width8_any _)))
  have hb1 := hb.kept ((Fr.refl [] w).drewN nq) (by simp)
  have hx1 : SBox (w.drewN nq) b _ := hbox.kept ((Fr.refl [] w).drewN nq) (by simp)
  have f1 := (Fr.refl [] w).drewN nq
  generalize w.drewN nq = w1 at hb1 hx1 f1
  go_wp2
  go_loop [3, 12] (fun v i => ∃ j : Nat, j ≤ 1 ∧ i = .int .i64 j ∧ v = .int .u64 (valL (l.take j))) (fun _ i => 1 - (intOf i).toNat)
  case atStart => exact ⟨0, by omega, rfl, rfl⟩
  case round =>
    obtain ⟨j, hj, rfl, rfl⟩ := hrel
    have hA : Hid (valL (l.take j) < 256 ^ j) := by
      have h1 := valL_lt (l.take j)
      rw [List.length_take, HL.out, Nat.min_eq_left (by omega)] at h1
      exact h1
    by_cases hlt : j < 1
    · have hlt' : (j : Int) < 1 := by omega
      have g1 : j < l.length := by rw [HL.out]; omega
      obtain ⟨b1, o1, e1, q1⟩ := hb1 j (.int .u8 l[j].toNat) (by simp [arr, g1])
      cases e1
      obtain ⟨x, HX⟩ : ∃ x : Int, Hid ((l[j].toNat : Int) = x) := ⟨(l[j].toNat : Int), rfl⟩
      rw [HX.out] at q1
      obtain ⟨A, HA⟩ : ∃ A : Int, Hid ((valL (l.take j) : Int) = A) := ⟨_, rfl⟩
      rw [HA.out]
      go_wp2
      refine ⟨⟨j + 1, by omega, by go_num, ?_⟩, by simp [intOf]; omega⟩
      have hpw : 256 ^ j ≤ 256 ^ 7 := Nat.pow_le_pow_right (by omega) (by omega)
      have hA1 := hA.out
      rw [← HA.out, ← HX.out, or_low64 _ _ (by omega) (l[j].toNat_lt), List.take_succ_eq_append_getElem g1, valL_snoc]
    · obtain rfl : j = 1 := by omega
      have hlt8 : (valL (l.take 1) : Int) < 256 := by
        have h1 := hA.out
        simp only [Nat.reducePow] at h1
        omega
      have hcell1 := hx1.cell
      have hfz1 := hx1.fz 0
      obtain ⟨o2, HO, hdp⟩ := take_at c 1 g o
      go_wp2
      go_region_with (go_at_call 283; refine (width8_any _).mono ?_; rintro e w' ⟨rfl, rfl⟩)
      all_goals (
        go_wp2
        go_ret
        exact ⟨rfl, take_end hx1 hb1 f1 hg hk hc HL.out HO⟩)

end Go.Proofs.YtopaeomjndblkaaGreat
