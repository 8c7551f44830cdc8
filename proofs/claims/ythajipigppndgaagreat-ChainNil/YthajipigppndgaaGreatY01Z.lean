/-
  Numbers as bytes: the key's PutInt and GetInt.
-/
import Derived.Test.YthajipigppndgaaGreatY00Z
import Derived.OwnWalk
namespace Go.Proofs.YthajipigppndgaaGreat
open Go.RowKit Go.Maps

/-- A cell that holds a slice of bytes. -/
def SBox (w : World) (b : Nat) (v : Value) : Prop := w.heap[b]? = some (.cells #[v] 26)
theorem SBox.kept {w w' : World} {b : Nat} {v : Value} {L : List Nat} (h : SBox w b v) (f : Fr L w w') (hb : b ∉ L) : SBox w' b v := f.same hb h
theorem SBox.cell {w : World} {b : Nat} {v : Value} (h : SBox w b v) : w.cell? ⟨b, 0, none⟩ = some v := cell_of_row w b 0 _ _ _ h
theorem SBox.fz {w : World} {b : Nat} {v : Value} (h : SBox w b v) (j : Nat) : w.frozen? ⟨b, j, none⟩ = false := frozen_of_row w b j _ _ h
theorem SBox.lt {w : World} {b : Nat} {v : Value} (h : SBox w b v) : b < w.heap.size := (Array.getElem?_eq_some_iff.1 h).1
theorem SBox.set {w : World} {b : Nat} {v : Value} (h : SBox w b v) (u : Value) : SBox (w.setCell ⟨b, 0, none⟩ u) b u := by
  have := heap_setCell_same w b 0 _ _ u h
  simpa [SBox] using this

theorem BytesAt.sub {w : World} {g o : Nat} {l : List UInt8} (h : BytesAt w (some ⟨g, o, none⟩) l) (i m : Nat) : BytesAt w (some ⟨g, o + i, none⟩) ((l.drop i).take m) := by
  intro j v hv
  have hv2 : (arr l).toList[i + j]? = some v := by
    simp only [arr, List.getElem?_map, List.getElem?_take, List.getElem?_drop] at hv ⊢
    split at hv
    · exact hv
    · cases hv
  obtain ⟨b, off, e, hc⟩ := h (i + j) v hv2
  cases e
  exact ⟨g, o + i, rfl, by rw [Nat.add_assoc]; exact hc⟩
theorem take_at (c k g o : Nat) : ∃ o', Hid (c = k ∨ o' = o + k) ∧ (if c = k then some (⟨g, o, none⟩ : Addr) else some ⟨g, o + k, none⟩) = some ⟨g, o', none⟩ := by
  by_cases e : c = k
  · exact ⟨o, Or.inl e, by rw [if_pos e]⟩
  · exact ⟨o + k, Or.inr rfl, by rw [if_neg e]⟩
theorem take_end {w w1 : World} {b g o o' n c k : Nat} {l : List UInt8} (hx : SBox w1 b (.slice (some ⟨g, o, none⟩) n c)) (hb : BytesAt w1 (some ⟨g, o, none⟩) l) (f : Fr [] w w1) (hg : g ≠ b) (hk : k ≤ n) (hc : n ≤ c) (hl : l.length = n) (ho : Hid (c = k ∨ o' = o + k)) :
    ∃ o'', SBox (w1.setCell ⟨b, 0, none⟩ (.slice (some ⟨g, o', none⟩) (n - k) (c - k))).drew b (.slice (some ⟨g, o'', none⟩) (n - k) (c - k)) ∧ BytesAt (w1.setCell ⟨b, 0, none⟩ (.slice (some ⟨g, o', none⟩) (n - k) (c - k))).drew (some ⟨g, o'', none⟩) (l.drop k) ∧ Fr [b] w (w1.setCell ⟨b, 0, none⟩ (.slice (some ⟨g, o', none⟩) (n - k) (c - k))).drew := by
  have f2 : Fr [b] w1 (w1.setCell ⟨b, 0, none⟩ (.slice (some ⟨g, o', none⟩) (n - k) (c - k))).drew := ((Fr.refl [b] w1).setCell _ _ (fun _ => by simp)).drew
  have f3 := (f.mono (M := [b]) (fun _ _ e => nomatch e)).trans f2
  refine ⟨o', hx.set _, ?_, f3⟩
  rcases ho.out with e | rfl
  · have : l.drop k = [] := List.drop_eq_nil_of_le (by omega)
    rw [this]
    exact BytesAt.nil _ _
  · have := (hb.sub k (l.length - k)).kept f2 (fun b' off e => by cases e; simpa using hg)
    rwa [List.take_of_length_le (by simp)] at this

theorem ret_int {k : IntKind} {a b : Int} (h : a = b) : Ending.returned (.int k a) = .returned (.int k b) := by rw [h]
theorem u64_or_nat (a b : Nat) (ha : a < 18446744073709551616) (hb : b < 18446744073709551616) : bits .or .u64 (a : Int) (b : Int) = ((a ||| b : Nat) : Int) := by
  have hx : a ||| b < 2 ^ 64 := Nat.or_lt_two_pow (by omega) (by omega)
  show IntKind.u64.wrap ((BitVec.ofInt 64 (a : Int) ||| BitVec.ofInt 64 (b : Int)).toNat : Int) = _
  rw [BitVec.toNat_or, ofInt_u64 a (by omega), ofInt_u64 b (by omega)]
  unfold IntKind.wrap
  simp [IntKind.signed, IntKind.bits]
  omega
theorem or_low64 (A x : Nat) (hA : A < 72057594037927936) (hx : x < 256) : bits .or .u64 (IntKind.u64.wrap ((A : Int) * 256)) (IntKind.u64.wrap (x : Int)) = ((A * 256 + x : Nat) : Int) := by
  have e1 : IntKind.u64.wrap ((A : Int) * 256) = ((A * 256 : Nat) : Int) := by simp [IntKind.wrap, IntKind.signed, IntKind.bits]; omega
  have e2 : IntKind.u64.wrap (x : Int) = (x : Int) := by simp [IntKind.wrap, IntKind.signed, IntKind.bits]; omega
  rw [e1, e2, u64_or_nat _ _ (by omega) (by omega), nat_join 8 _ _ (by omega) (by omega)]

set_option maxHeartbeats 1000000 in
set_option maxRecDepth 100000 in
theorem take64_any (w : World) (b : Nat) (g o n c : Nat) (l : List UInt8) (hbox : SBox w b (.slice (some ⟨g, o, none⟩) n c)) (hl : l.length = n) (hk : 8 ≤ n) (hc : n ≤ c) (hb : BytesAt w (some ⟨g, o, none⟩) l) (hg : g ≠ b) :
    Calls Tryz.prog 275 #[.pointer (some ⟨b, 0, none⟩)] w fun e w' => e = .returned (.int .u64 (valL (l.take 8))) ∧ ∃ o', SBox w' b (.slice (some ⟨g, o', none⟩) (n - 8) (c - 8)) ∧ BytesAt w' (some ⟨g, o', none⟩) (l.drop 8) ∧ Fr [b] w w' := by
  have HL : Hid (l.length = n) := hl
  clear hl
  have hk' : (8 : Int) ≤ n := by omega
  have hc' : (n : Int) ≤ c := by omega
  have hkc : (8 : Int) ≤ c := by omega
  have hcell := hbox.cell
  have hfz := hbox.fz 0
  go_enter Tryz.func275, Tryz.ntmps275
  go_wp2
  go_quiet ((go_at_call 266; exact Calls.quiet_of_same (width64_any _)))
  have hb1 := hb.kept ((Fr.refl [] w).drewN nq) (by simp)
  have hx1 : SBox (w.drewN nq) b _ := hbox.kept ((Fr.refl [] w).drewN nq) (by simp)
  have f1 := (Fr.refl [] w).drewN nq
  generalize w.drewN nq = w1 at hb1 hx1 f1
  go_wp2
  go_loop [3, 12] (fun v i => ∃ j : Nat, j ≤ 8 ∧ i = .int .i64 j ∧ v = .int .u64 (valL (l.take j))) (fun _ i => 8 - (intOf i).toNat)
  case atStart => exact ⟨0, by omega, rfl, rfl⟩
  case round =>
    obtain ⟨j, hj, rfl, rfl⟩ := hrel
    have hA : Hid (valL (l.take j) < 256 ^ j) := by
      have h1 := valL_lt (l.take j)
      rw [List.length_take, HL.out, Nat.min_eq_left (by omega)] at h1
      exact h1
    by_cases hlt : j < 8
    · have hlt' : (j : Int) < 8 := by omega
      have g1 : j < l.length := by rw [HL.out]; omega
      obtain ⟨b1, o1, e1, q1⟩ := hb1 j (.int .u8 l[j].toNat) (by simp [arr, g1])
      cases e1
      obtain ⟨x, HX⟩ : ∃ x : Int, Hid ((l[j].toNat : Int) = x) := ⟨(l[j].toNat : Int), rfl⟩
      rw [HX.out] at q1
      obtain ⟨A, HA⟩ : ∃ A : Int, Hid ((valL (l.take j) : Int) = A) := ⟨_, rfl⟩
      rw [HA.out]
      go_wp2
      refine ⟨⟨j + 1, by omega, by go_num, ?_⟩, by simp [intOf]; omega⟩
      have hpw : 256 ^ j ≤ 256 ^ 7 := Nat.pow_le_pow_right (by omega) (by omega)
      have hA1 := hA.out
      rw [← HA.out, ← HX.out, or_low64 _ _ (by omega) (l[j].toNat_lt), List.take_succ_eq_append_getElem g1, valL_snoc]
    · obtain rfl : j = 8 := by omega
      have hcell1 := hx1.cell
      have hfz1 := hx1.fz 0
      obtain ⟨o2, HO, hdp⟩ := take_at c 8 g o
      go_wp2
      go_region_with (go_at_call 266; refine (width64_any _).mono ?_; rintro e w' ⟨rfl, rfl⟩)
      all_goals (
        go_wp2
        go_ret
        exact ⟨rfl, take_end hx1 hb1 f1 hg hk hc HL.out HO⟩)

set_option maxHeartbeats 1000000 in
set_option maxRecDepth 100000 in
theorem take32_any (w : World) (b : Nat) (g o n c : Nat) (l : List UInt8) (hbox : SBox w b (.slice (some ⟨g, o, none⟩) n c)) (hl : l.length = n) (hk : 4 ≤ n) (hc : n ≤ c) (hb : BytesAt w (some ⟨g, o, none⟩) l) (hg : g ≠ b) :
    Calls Tryz.prog 276 #[.pointer (some ⟨b, 0, none⟩)] w fun e w' => e = .returned (.int .u32 (valL (l.take 4))) ∧ ∃ o', SBox w' b (.slice (some ⟨g, o', none⟩) (n - 4) (c - 4)) ∧ BytesAt w' (some ⟨g, o', none⟩) (l.drop 4) ∧ Fr [b] w w' := by
  have HL : Hid (l.length = n) := hl
  clear hl
  have hk' : (4 : Int) ≤ n := by omega
  have hc' : (n : Int) ≤ c := by omega
  have hkc : (4 : Int) ≤ c := by omega
  have hcell := hbox.cell
  have hfz := hbox.fz 0
  go_enter Tryz.func276, Tryz.ntmps276
  go_wp2
  go_quiet ((go_at_call 267; exact Calls.quiet_of_same (width32_any _)))
  have hb1 := hb.kept ((Fr.refl [] w).drewN nq) (by simp)
  have hx1 : SBox (w.drewN nq) b _ := hbox.kept ((Fr.refl [] w).drewN nq) (by simp)
  have f1 := (Fr.refl [] w).drewN nq
  generalize w.drewN nq = w1 at hb1 hx1 f1
  go_wp2
  go_loop [3, 12] (fun v i => ∃ j : Nat, j ≤ 4 ∧ i = .int .i64 j ∧ v = .int .u64 (valL (l.take j))) (fun _ i => 4 - (intOf i).toNat)
  case atStart => exact ⟨0, by omega, rfl, rfl⟩
  case round =>
    obtain ⟨j, hj, rfl, rfl⟩ := hrel
    have hA : Hid (valL (l.take j) < 256 ^ j) := by
      have h1 := valL_lt (l.take j)
      rw [List.length_take, HL.out, Nat.min_eq_left (by omega)] at h1
      exact h1
    by_cases hlt : j < 4
    · have hlt' : (j : Int) < 4 := by omega
      have g1 : j < l.length := by rw [HL.out]; omega
      obtain ⟨b1, o1, e1, q1⟩ := hb1 j (.int .u8 l[j].toNat) (by simp [arr, g1])
      cases e1
      obtain ⟨x, HX⟩ : ∃ x : Int, Hid ((l[j].toNat : Int) = x) := ⟨(l[j].toNat : Int), rfl⟩
      rw [HX.out] at q1
      obtain ⟨A, HA⟩ : ∃ A : Int, Hid ((valL (l.take j) : Int) = A) := ⟨_, rfl⟩
      rw [HA.out]
      go_wp2
      refine ⟨⟨j + 1, by omega, by go_num, ?_⟩, by simp [intOf]; omega⟩
      have hpw : 256 ^ j ≤ 256 ^ 7 := Nat.pow_le_pow_right (by omega) (by omega)
      have hA1 := hA.out
      rw [← HA.out, ← HX.out, or_low64 _ _ (by omega) (l[j].toNat_lt), List.take_succ_eq_append_getElem g1, valL_snoc]
    · obtain rfl : j = 4 := by omega
      have hlt8 : (valL (l.take 4) : Int) < 4294967296 := by
        have h1 := hA.out
        simp only [Nat.reducePow] at h1
        omega
      have hcell1 := hx1.cell
      have hfz1 := hx1.fz 0
      obtain ⟨o2, HO, hdp⟩ := take_at c 4 g o
      go_wp2
      go_region_with (go_at_call 267; refine (width32_any _).mono ?_; rintro e w' ⟨rfl, rfl⟩)
      all_goals (
        go_wp2
        go_ret
        exact ⟨rfl, take_end hx1 hb1 f1 hg hk hc HL.out HO⟩)

set_option maxHeartbeats 1000000 in
set_option maxRecDepth 100000 in
theorem take16_any (w : World) (b : Nat) (g o n c : Nat) (l : List UInt8) (hbox : SBox w b (.slice (some ⟨g, o, none⟩) n c)) (hl : l.length = n) (hk : 2 ≤ n) (hc : n ≤ c) (hb : BytesAt w (some ⟨g, o, none⟩) l) (hg : g ≠ b) :
    Calls Tryz.prog 277 #[.pointer (some ⟨b, 0, none⟩)] w fun e w' => e = .returned (.int .u16 (valL (l.take 2))) ∧ ∃ o', SBox w' b (.slice (some ⟨g, o', none⟩) (n - 2) (c - 2)) ∧ BytesAt w' (some ⟨g, o', none⟩) (l.drop 2) ∧ Fr [b] w w' := by
  have HL : Hid (l.length = n) := hl
  clear hl
  have hk' : (2 : Int) ≤ n := by omega
  have hc' : (n : Int) ≤ c := by omega
  have hkc : (2 : Int) ≤ c := by omega
  have hcell := hbox.cell
  have hfz := hbox.fz 0
  go_enter Tryz.func277, Tryz.ntmps277
  go_wp2
  go_quiet ((go_at_call 291; exact Calls.quiet_of_same (width16_any _)))
  have hb1 := hb.kept ((Fr.refl [] w).drewN nq) (by simp)
  have hx1 : SBox (w.drewN nq) b _ := hbox.kept ((Fr.refl [] w).drewN nq) (by simp)
  have f1 := (Fr.refl [] w).drewN nq
  generalize w.drewN nq = w1 at hb1 hx1 f1
  go_wp2
  go_loop [3, 12] (fun v i => ∃ j : Nat, j ≤ 2 ∧ i = .int .i64 j ∧ v = .int .u64 (valL (l.take j))) (fun _ i => 2 - (intOf i).toNat)
  case atStart => exact ⟨0, by omega, rfl, rfl⟩
  case round =>
    obtain ⟨j, hj, rfl, rfl⟩ := hrel
    have hA : Hid (valL (l.take j) < 256 ^ j) := by
      have h1 := valL_lt (l.take j)
      rw [List.length_take, HL.out, Nat.min_eq_left (by omega)] at h1
      exact h1
    by_cases hlt : j < 2
    · have hlt' : (j : Int) < 2 := by omega
      have g1 : j < l.length := by rw [HL.out]; omega
      obtain ⟨b1, o1, e1, q1⟩ := hb1 j (.int .u8 l[j].toNat) (by simp [arr, g1])
      cases e1
      obtain ⟨x, HX⟩ : ∃ x : Int, Hid ((l[j].toNat : Int) = x) := ⟨(l[j].toNat : Int), rfl⟩
      rw [HX.out] at q1
      obtain ⟨A, HA⟩ : ∃ A : Int, Hid ((valL (l.take j) : Int) = A) := ⟨_, rfl⟩
      rw [HA.out]
      go_wp2
      refine ⟨⟨j + 1, by omega, by go_num, ?_⟩, by simp [intOf]; omega⟩
      have hpw : 256 ^ j ≤ 256 ^ 7 := Nat.pow_le_pow_right (by omega) (by omega)
      have hA1 := hA.out
      rw [← HA.out, ← HX.out, or_low64 _ _ (by omega) (l[j].toNat_lt), List.take_succ_eq_append_getElem g1, valL_snoc]
    · obtain rfl : j = 2 := by omega
      have hlt8 : (valL (l.take 2) : Int) < 65536 := by
        have h1 := hA.out
        simp only [Nat.reducePow] at h1
        omega
      have hcell1 := hx1.cell
      have hfz1 := hx1.fz 0
      obtain ⟨o2, HO, hdp⟩ := take_at c 2 g o
      go_wp2
      go_region_with (go_at_call 291; refine (width16_any _).mono ?_; rintro e w' ⟨rfl, rfl⟩)
      all_goals (
        go_wp2
        go_ret
        exact ⟨rfl, take_end hx1 hb1 f1 hg hk hc HL.out HO⟩)

set_option maxHeartbeats 1000000 in
set_option maxRecDepth 100000 in
theorem take8_any (w : World) (b : Nat) (g o n c : Nat) (l : List UInt8) (hbox : SBox w b (.slice (some ⟨g, o, none⟩) n c)) (hl : l.length = n) (hk : 1 ≤ n) (hc : n ≤ c) (hb : BytesAt w (some ⟨g, o, none⟩) l) (hg : g ≠ b) :
    Calls Tryz.prog 302 #[.pointer (some ⟨b, 0, none⟩)] w fun e w' => e = .returned (.int .u8 (valL (l.take 1))) ∧ ∃ o', SBox w' b (.slice (some ⟨g, o', none⟩) (n - 1) (c - 1)) ∧ BytesAt w' (some ⟨g, o', none⟩) (l.drop 1) ∧ Fr [b] w w' := by
  have HL : Hid (l.length = n) := hl
  clear hl
  have hk' : (1 : Int) ≤ n := by omega
  have hc' : (n : Int) ≤ c := by omega
  have hkc : (1 : Int) ≤ c := by omega
  have hcell := hbox.cell
  have hfz := hbox.fz 0
  go_enter Tryz.func302, Tryz.ntmps302
  go_wp2
  go_quiet ((go_at_call 268; exact Calls.quiet_of_same (width8_any _)))
  have hb1 := hb.kept ((Fr.refl [] w).drewN nq) (by simp)
  have hx1 : SBox (w.drewN nq) b _ := hbox.kept ((Fr.refl [] w).drewN nq) (by simp)
  have f1 := (Fr.refl [] w).drewN nq
  generalize w.drewN nq = w1 at hb1 hx1 f1
  go_wp2
  go_loop [3, 12] (fun v i => ∃ j : Nat, j ≤ 1 ∧ i = .int .i64 j ∧ v = .int .u64 (valL (l.take j))) (fun _ i => 1 - (intOf i).toNat)
  case atStart => exact ⟨0, by omega, rfl, rfl⟩
  case round =>
    obtain ⟨j, hj, rfl, rfl⟩ := hrel
    have hA : Hid (valL (l.take j) < 256 ^ j) := by
      have h1 := valL_lt (l.take j)
      rw [List.length_take, HL.out, Nat.min_eq_left (by omega)] at h1
      exact h1
    by_cases hlt : j < 1
    · have hlt' : (j : Int) < 1 := by omega
      have g1 : j < l.length := by rw [HL.out]; omega
      obtain ⟨b1, o1, e1, q1⟩ := hb1 j (.int .u8 l[j].toNat) (by simp [arr, g1])
      cases e1
      obtain ⟨x, HX⟩ : ∃ x : Int, Hid ((l[j].toNat : Int) = x) := ⟨(l[j].toNat : Int), rfl⟩
      rw [HX.out] at q1
      obtain ⟨A, HA⟩ : ∃ A : Int, Hid ((valL (l.take j) : Int) = A) := ⟨_, rfl⟩
      rw [HA.out]
      go_wp2
      refine ⟨⟨j + 1, by omega, by go_num, ?_⟩, by simp [intOf]; omega⟩
      have hpw : 256 ^ j ≤ 256 ^ 7 := Nat.pow_le_pow_right (by omega) (by omega)
      have hA1 := hA.out
      rw [← HA.out, ← HX.out, or_low64 _ _ (by omega) (l[j].toNat_lt), List.take_succ_eq_append_getElem g1, valL_snoc]
    · obtain rfl : j = 1 := by omega
      have hlt8 : (valL (l.take 1) : Int) < 256 := by
        have h1 := hA.out
        simp only [Nat.reducePow] at h1
        omega
      have hcell1 := hx1.cell
      have hfz1 := hx1.fz 0
      obtain ⟨o2, HO, hdp⟩ := take_at c 1 g o
      go_wp2
      go_region_with (go_at_call 268; refine (width8_any _).mono ?_; rintro e w' ⟨rfl, rfl⟩)
      all_goals (
        go_wp2
        go_ret
        exact ⟨rfl, take_end hx1 hb1 f1 hg hk hc HL.out HO⟩)

end Go.Proofs.YthajipigppndgaaGreat

namespace Go.Proofs.YthajipigppndgaaGreat
open Go.RowKit Go.Maps

theorem hidI {P : Prop} (h : P) : Hid P := h
def preS (l1 l2 : List UInt8) (j : Nat) : List UInt8 := if j = 0 then [] else if j = 1 then l1 else l1 ++ l2

theorem ofI32 (a : Nat) (h : a < 4294967296) : (BitVec.ofInt 32 (a : Int)).toNat = a := by
  rw [BitVec.ofInt_natCast, BitVec.toNat_ofNat]; exact Nat.mod_eq_of_lt (by omega)
theorem xor32 (a b : Nat) (ha : a < 4294967296) (hb : b < 4294967296) : bits .xor .u32 (a : Int) (b : Int) = ((a ^^^ b : Nat) : Int) := by
  have hx : a ^^^ b < 2 ^ 32 := Nat.xor_lt_two_pow (by omega) (by omega)
  show IntKind.u32.wrap ((BitVec.ofInt 32 (a : Int) ^^^ BitVec.ofInt 32 (b : Int)).toNat : Int) = _
  rw [BitVec.toNat_xor, ofI32 a ha, ofI32 b hb]
  simp [IntKind.wrap, IntKind.signed, IntKind.bits]
  omega
theorem and32 (a b : Nat) (ha : a < 4294967296) (hb : b < 4294967296) : bits .and .u32 (a : Int) (b : Int) = ((a &&& b : Nat) : Int) := by
  have hx : a &&& b < 2 ^ 32 := Nat.and_lt_two_pow _ (by omega)
  show IntKind.u32.wrap ((BitVec.ofInt 32 (a : Int) &&& BitVec.ofInt 32 (b : Int)).toNat : Int) = _
  rw [BitVec.toNat_and, ofI32 a ha, ofI32 b hb]
  simp [IntKind.wrap, IntKind.signed, IntKind.bits]
  omega
theorem cstep (D : Nat) (hD : D < 4294967296) : bits .xor .u32 ((D : Int) / 2) (bits .and .u32 3988292384 (-bits .and .u32 (D : Int) 1 % 4294967296)) = ((cbit D : Nat) : Int) := by
  have e1 : bits .and .u32 (D : Int) 1 = ((D % 2 : Nat) : Int) := by
    have := and32 D 1 hD (by omega)
    rw [Nat.and_one_is_mod] at this
    exact this
  have e0 : (D : Int) / 2 = ((D / 2 : Nat) : Int) := by omega
  rw [e1, e0]
  unfold cbit
  rcases (by omega : D % 2 = 0 ∨ D % 2 = 1) with h | h
  · rw [h, if_neg (by omega)]
    have e2 : bits .and .u32 3988292384 (-((0 : Nat) : Int) % 4294967296) = ((0 : Nat) : Int) := by
      have := and32 3988292384 0 (by omega) (by omega)
      rw [Nat.and_zero] at this
      exact this
    rw [e2, xor32 _ _ (by omega) (by omega), Nat.xor_zero]
  · rw [h, if_pos rfl]
    have e2 : bits .and .u32 3988292384 (-((1 : Nat) : Int) % 4294967296) = ((3988292384 : Nat) : Int) := by
      have := and32 3988292384 4294967295 (by omega) (by omega)
      rw [show (3988292384 &&& 4294967295 : Nat) = 3988292384 by decide] at this
      exact this
    rw [e2, xor32 _ _ (by omega) (by omega)]

set_option maxHeartbeats 2000000 in
set_option maxRecDepth 100000 in
theorem sum_any (w : World) (g c n1 c1 n2 c2 : Nat) (a1 a2 : Option Addr) (l1 l2 : List UInt8) (hg : w.heap[g]? = some (.cells #[.slice a1 n1 c1, .slice a2 n2 c2] 26)) (hl1 : l1.length = n1) (hl2 : l2.length = n2) (hb1 : BytesAt w a1 l1) (hb2 : BytesAt w a2 l2) (hm1 : n1 ≤ 1000000) (hm2 : n2 ≤ 1000000) :
    Calls Tryz.prog 265 #[.slice (some ⟨g, 0, none⟩) 2 c] w fun e w' => e = .returned (.int .u32 (crc (l1 ++ l2))) ∧ w' = w := by
  have HL1 : Hid (l1.length = n1) := hl1
  have HL2 : Hid (l2.length = n2) := hl2
  clear hl1 hl2
  go_enter Tryz.func265, Tryz.ntmps265
  go_wp2
  go_loop [3, 10] (fun v i => ∃ j : Nat, j ≤ 2 ∧ i = .int .i64 j ∧ v = .int .u32 (crcL 4294967295 (preS l1 l2 j) : Nat)) (fun _ i => 2 - (intOf i).toNat)
  case atStart => exact ⟨0, by omega, rfl, by simp [preS, crcL_nil]⟩
  case round =>
    obtain ⟨j, hj, rfl, rfl⟩ := hrel
    by_cases hlt : j < 2
    · have hlt' : (j : Int) < 2 := by omega
      obtain ⟨ad, n, cc, l, hcell, HL, hb, hm, HP⟩ : ∃ ad n cc l, w.cell? ⟨g, j, none⟩ = some (.slice ad n cc) ∧ Hid (l.length = n) ∧ BytesAt w ad l ∧ n ≤ 1000000 ∧ Hid (preS l1 l2 (j + 1) = preS l1 l2 j ++ l) := by
        rcases (by omega : j = 0 ∨ j = 1) with rfl | rfl
        · exact ⟨a1, n1, c1, l1, cell_of_row w g 0 _ _ _ hg, HL1, hb1, hm1, (by simp [preS] : preS l1 l2 1 = preS l1 l2 0 ++ l1)⟩
        · exact ⟨a2, n2, c2, l2, cell_of_row w g 1 _ _ _ hg, HL2, hb2, hm2, (by simp [preS] : preS l1 l2 2 = preS l1 l2 1 ++ l2)⟩
      obtain ⟨C0, HC0, hC0⟩ : ∃ C0 : Nat, Hid (crcL 4294967295 (preS l1 l2 j) = C0) ∧ C0 < 4294967296 := ⟨_, rfl, crcL_lt (by omega) _⟩
      rw [HC0.out]
      have hn0 : (0 : Int) ≤ (n : Int) := by omega
      go_wp2
      go_loop [3, 16] (fun v i => ∃ k : Nat, k ≤ n ∧ i = .int .i64 k ∧ v = .int .u32 (crcL C0 (l.take k) : Nat)) (fun _ i => n - (intOf i).toNat)
      case atStart => exact ⟨0, by omega, rfl, by simp [crcL_nil]⟩
      case round =>
        obtain ⟨k, hk, rfl, rfl⟩ := hrel
        by_cases hkl : k < n
        · have hkl' : (k : Int) < n := by omega
          have gk : k < l.length := by rw [HL.out]; omega
          obtain ⟨b1, o1, e1, q1⟩ := hb k (.int .u8 l[k].toNat) (by simp [arr, gk])
          subst e1
          obtain ⟨x, HX⟩ : ∃ x : Int, Hid ((l[k].toNat : Int) = x) := ⟨(l[k].toNat : Int), rfl⟩
          rw [HX.out] at q1
          obtain ⟨C, HC, hC⟩ : ∃ C : Nat, Hid (crcL C0 (l.take k) = C) ∧ C < 4294967296 := ⟨_, rfl, crcL_lt hC0 _⟩
          rw [HC.out]
          go_wp2
          go_loop [3, 24] (fun v i => ∃ m : Nat, m ≤ 8 ∧ i = .int .i64 m ∧ v = .int .u32 (cbits m (C ^^^ l[k].toNat) : Nat)) (fun _ i => 8 - (intOf i).toNat)
          case atStart =>
            refine ⟨0, by omega, rfl, ?_⟩
            have hxl := l[k].toNat_lt
            rw [← HX.out, Int.emod_eq_of_lt (by omega) (by omega), xor32 _ _ hC (by omega)]
            rfl
          case round =>
            obtain ⟨m, hm, rfl, rfl⟩ := hrel
            obtain ⟨D, HD, hD⟩ : ∃ D : Nat, Hid (cbits m (C ^^^ l[k].toNat) = D) ∧ D < 4294967296 := ⟨_, hidI rfl, cbits_lt (xor8_lt hC _) _⟩
            rw [HD.out]
            by_cases hm8 : m < 8
            · have hm8' : (m : Int) < 8 := by omega
              go_wp2
              refine ⟨⟨m + 1, by omega, by go_num, ?_⟩, by simp [intOf]; omega⟩
              rw [cstep D hD, ← HD.out]
              rfl
            · obtain rfl : m = 8 := by omega
              go_wp2
              refine ⟨⟨k + 1, by omega, by go_num, ?_⟩, by simp [intOf]; omega⟩
              rw [List.take_succ_eq_append_getElem gk, crcL_snoc, HC.out, ← HD.out]
              rfl
        · obtain rfl : k = n := by omega
          have HT : Hid (l.take k = l) := List.take_of_length_le (by rw [HL.out]; omega)
          go_wp2
          refine ⟨⟨j + 1, by omega, by go_num, ?_⟩, by simp [intOf]; omega⟩
          rw [HP.out, crcL_app, HC0.out, HT.out]
    · obtain rfl : j = 2 := by omega
      go_wp2
      go_ret
      refine ⟨ret_int ?_, rfl⟩
      have hlast := crcL_lt (c := 4294967295) (by omega) (l1 ++ l2)
      rw [show preS l1 l2 2 = l1 ++ l2 by simp [preS], show IntKind.u32.max = ((4294967295 : Nat) : Int) from rfl, xor32 _ _ (by omega) hlast, Nat.xor_comm]
      rfl

end Go.Proofs.YthajipigppndgaaGreat

namespace Go.Proofs.YthajipigppndgaaGreat

/-! ### the order of bytes -/
/-! ### a row's bytes -/
/-! ### what a row's bytes say -/
def getB : List UInt8 → Option (List UInt8 × Nat)
  | [] => none
  | [_] => none
  | b :: c :: r =>
    if b = 0 then
      if c = 0 then some ([], 2) else if c = 255 then (getB r).map fun p => (0 :: p.1, p.2 + 2) else none
    else (getB (c :: r)).map fun p => (b :: p.1, p.2 + 1)
/-- How far a row has been read: what is got is what has been read and what is got of the rest. -/
def Upto (l row : List UInt8) (i : Nat) : Prop := getB l = (getB (l.drop i)).map fun p => (row ++ p.1, p.2 + i)
theorem Upto.start (l : List UInt8) : Upto l [] 0 := by unfold Upto; rw [List.drop_zero]; cases getB l <;> simp
theorem Upto.other {l row : List UInt8} {i : Nat} (h : Upto l row i) (hi : i < l.length) (hb : l[i] ≠ 0) : Upto l (row ++ [l[i]]) (i + 1) := by
  unfold Upto at h ⊢
  rw [h, List.drop_eq_getElem_cons hi]
  cases hd : l.drop (i + 1) with
  | nil => rfl
  | cons c r =>
    simp only [getB, if_neg hb, Option.map_map]
    congr 1
    funext p
    simp [Function.comp]
    omega
theorem Upto.zero {l row : List UInt8} {i : Nat} (h : Upto l row i) (hi : i + 1 < l.length) (hb : l[i] = 0) (hc : l[i + 1] = 255) : Upto l (row ++ [0]) (i + 2) := by
  unfold Upto at h ⊢
  rw [h, List.drop_eq_getElem_cons (show i < l.length by omega), List.drop_eq_getElem_cons hi]
  simp only [getB, hb, hc, if_true]
  rw [if_neg (by decide)]
  simp only [Option.map_map]
  congr 1
  funext p
  simp [Function.comp]
  omega
theorem Upto.ends {l row : List UInt8} {i : Nat} (h : Upto l row i) (hi : i + 1 < l.length) (hb : l[i] = 0) (hc : l[i + 1] = 0) : getB l = some (row, i + 2) := by
  unfold Upto at h
  rw [h, List.drop_eq_getElem_cons (show i < l.length by omega), List.drop_eq_getElem_cons hi]
  simp [getB, hb, hc]
  omega
theorem Upto.bad {l row : List UInt8} {i : Nat} (h : Upto l row i) (hi : i + 1 < l.length) (hb : l[i] = 0) (hc : l[i + 1] ≠ 0) (hd : l[i + 1] ≠ 255) : getB l = none := by
  unfold Upto at h
  rw [h, List.drop_eq_getElem_cons (show i < l.length by omega), List.drop_eq_getElem_cons hi]
  simp [getB, hb, hc, hd]
theorem Upto.out {l row : List UInt8} {i : Nat} (h : Upto l row i) (hi : l.length ≤ i + 1) : getB l = none := by
  unfold Upto at h
  rw [h]
  have : (l.drop i).length ≤ 1 := by simp; omega
  match hd : l.drop i, this with
  | [], _ => rfl
  | [_], _ => rfl
  | _ :: _ :: _, k => simp at k

/-! ### a number's bytes -/
def be : Nat → Nat → List UInt8
  | 0, _ => []
  | n + 1, u => UInt8.ofNat (u / 256 ^ n) :: be n u
def ofBe (l : List UInt8) : Nat := l.foldl (fun a b => 256 * a + b.toNat) 0
theorem be_length (n u : Nat) : (be n u).length = n := by
  induction n with
  | zero => rfl
  | succ n ih => simp [be, ih]
theorem be_at (n u i : Nat) (h : i < n) : (be n u)[i]? = some (UInt8.ofNat (u / 256 ^ (n - 1 - i))) := by
  induction n generalizing i with
  | zero => omega
  | succ n ih =>
    cases i with
    | zero => simp [be]
    | succ i =>
      simp only [be, List.getElem?_cons_succ]
      rw [ih i (by omega)]
      congr 4
      omega
theorem ofBe_snoc (l : List UInt8) (b : UInt8) : ofBe (l ++ [b]) = 256 * ofBe l + b.toNat := by simp [ofBe, List.foldl_append]
theorem snoc_rec {P : List UInt8 → Prop} (h0 : P []) (h1 : ∀ l b, P l → P (l ++ [b])) (l : List UInt8) : P l := by
  rw [← List.reverse_reverse l]
  induction l.reverse with
  | nil => exact h0
  | cons b r ih => rw [List.reverse_cons]; exact h1 _ _ ih
theorem ofBe_lt (l : List UInt8) : ofBe l < 256 ^ l.length := by
  induction l using snoc_rec with
  | h0 => simp [ofBe]
  | h1 l b ih =>
    rw [ofBe_snoc, List.length_append, List.length_singleton, Nat.pow_succ]
    have := b.toNat_lt
    omega
theorem be_snoc (n u : Nat) : be (n + 1) u = be n (u / 256) ++ [UInt8.ofNat u] := by
  induction n generalizing u with
  | zero => simp [be]
  | succ n ih =>
    rw [be, ih]
    conv => rhs; rw [be]
    rw [List.cons_append]
    congr 2
    rw [Nat.div_div_eq_div_mul, Nat.pow_succ, Nat.mul_comm]
theorem ofBe_be (n u : Nat) : ofBe (be n u) = u % 256 ^ n := by
  induction n generalizing u with
  | zero => simp [be, ofBe, Nat.mod_one]
  | succ n ih =>
    rw [be_snoc, ofBe_snoc, ih, UInt8.toNat_ofNat', show 256 ^ (n + 1) = 256 * 256 ^ n by rw [Nat.pow_succ, Nat.mul_comm], Nat.mod_mul]
    omega
theorem be_ofBe (l : List UInt8) : be l.length (ofBe l) = l := by
  induction l using snoc_rec with
  | h0 => rfl
  | h1 l b ih =>
    rw [List.length_append, List.length_singleton, be_snoc, ofBe_snoc]
    have h1 : (256 * ofBe l + b.toNat) / 256 = ofBe l := by have := b.toNat_lt; omega
    rw [h1, ih]
    congr 2
    apply UInt8.toNat_inj.1
    rw [UInt8.toNat_ofNat']
    have := b.toNat_lt
    omega
end Go.Proofs.YthajipigppndgaaGreat

namespace Go.Proofs.YthajipigppndgaaGreat
open Go.RowKit Go.Maps

set_option maxHeartbeats 400000 in
set_option maxRecDepth 100000 in
theorem kput_any (w0 w : World) (v : Value) (n : Nat) (xs : List Value) (hown : Own w0 w v n xs) (b k c : Nat) (l : List UInt8) (hl : l.length = k) (hsrc : BytesAt w (some ⟨b, 0, none⟩) l) (hk : n + k ≤ 1000000) :
    Calls Tryz.prog 273 #[v, .slice (some ⟨b, 0, none⟩) k c] w fun e w' => ∃ v', e = .returned v' ∧ Own w0 w' v' (n + k) (xs ++ (arr l).toList) := by
  go_enter Tryz.func273, Tryz.ntmps273
  go_wp2_with (refine wp_app rfl _ _ rfl w0 v n xs rfl hown _ k c l rfl hl hsrc hk (fun _ => ⟨_, rfl⟩) ?_; intro v' w' o')
  go_ret
  exact ⟨v', rfl, o'⟩

theorem one_src (w : World) (b : UInt8) (x : Int) (hx : x = b.toNat) : BytesAt (w.alloc (.cells #[.int .u8 x] 5)) (some ⟨w.heap.size, 0, none⟩) [b] := by
  subst hx
  exact Blk.bytes (l := [b]) (heap_alloc_new _ _)
theorem Own.of_eq {w0 w : World} {v : Value} {n m : Nat} {l l' : List UInt8} (h : Own w0 w v n (arr l).toList) (e : l = l') (hm : n = m) : Own w0 w v m (arr l').toList := by
  subst e hm
  exact h
theorem Own.app {w0 w : World} {v : Value} {n m k : Nat} {l l' r : List UInt8} (h : Own w0 w v (n + k) ((arr l).toList ++ (arr l').toList)) (e : l ++ l' = r) (hm : n + k = m) : Own w0 w v m (arr r).toList := by
  subst e hm
  rw [arr_append] at h
  exact h

theorem be_take_step (u i : Nat) (h : i < 8) : (be 8 u).take (i + 1) = (be 8 u).take i ++ [UInt8.ofNat (u / 256 ^ (7 - i))] := by
  have h8 := be_length 8 u
  rw [List.take_succ_eq_append_getElem (by omega)]
  congr 2
  have := be_at 8 u i h
  rw [List.getElem?_eq_getElem (by omega)] at this
  exact Option.some.inj this

set_option maxHeartbeats 1000000 in
set_option maxRecDepth 100000 in
theorem putInt_any (w : World) (n : Int) (u : Nat) (hu : n + 9223372036854775808 = (u : Int)) (hu1 : u < 18446744073709551616) :
    Calls Tryz.prog 247 #[.int .i64 n] w fun e w' => ∃ v, e = .returned v ∧ Own w w' v 8 (arr (be 8 u)).toList := by
  have hU : IntKind.u64.wrap (IntKind.u64.wrap n + 9223372036854775808) = (u : Int) := by
    unfold IntKind.wrap
    simp [IntKind.signed, IntKind.bits]
    omega
  go_enter Tryz.func247, Tryz.ntmps247
  go_wp2_with (refine wp_make0 rfl _ _ rfl 8 rfl (by rfl) (by omega) w (Fr.refl _ _) ?_; intro w1 o1)
  clear hU hu
  generalize IntKind.u64.wrap n = wn
  obtain ⟨U, HU⟩ : ∃ U : Int, Hid ((u : Int) = U) := ⟨_, rfl⟩
  rw [HU.out]
  go_loopw [4, 10] (fun v i wr => ∃ j : Nat, j ≤ 8 ∧ i = .int .i64 j ∧ Own w wr v j (arr ((be 8 u).take j)).toList) (fun _ i _ => 8 - (intOf i).toNat)
  case atStart => exact ⟨0, by omega, rfl, o1⟩
  case round =>
    obtain ⟨j, hj, rfl, ow⟩ := hrel
    by_cases hlt : j < 8
    · have hlt' : (j : Int) < 8 := by omega
      have hj0 : (0 : Int) ≤ (j : Int) := by omega
      have HB : Hid (U / 2 ^ (8 * (7 - j)) % 256 = ((UInt8.ofNat (u / 256 ^ (7 - j))).toNat : Int)) := by
        show _ = _
        rw [← HU.out, UInt8.toNat_ofNat', show (256 : Nat) ^ (7 - j) = 2 ^ (8 * (7 - j)) by rw [Nat.pow_mul]]
        simp
      go_wp2_with (go_at_call 273; refine (kput_any w _ _ _ _ (ow.kept ((Fr.refl [] _).alloc _)) _ 1 _ [UInt8.ofNat (u / 256 ^ (7 - j))] rfl (one_src _ _ _ HB.out) (by omega)).mono ?_; rintro e w5 ⟨v5, rfl, o5⟩)
      refine ⟨⟨j + 1, by omega, by go_num, o5.app ?_ rfl⟩, by simp [intOf]; omega⟩
      rw [be_take_step u j hlt]
    · obtain rfl : j = 8 := by omega
      go_wp2
      go_ret
      refine ⟨_, rfl, ow.of_eq ?_ rfl⟩
      exact List.take_of_length_le (by rw [be_length]; omega)

theorem kor_low (A x : Nat) (hA : A < 72057594037927936) (hx : x < 256) : bits .or .u64 (IntKind.u64.wrap ((A : Int) * 256)) (IntKind.u64.wrap (x : Int)) = ((256 * A + x : Nat) : Int) := by
  have e1 : IntKind.u64.wrap ((A : Int) * 256) = ((A * 256 : Nat) : Int) := by
    unfold IntKind.wrap
    simp [IntKind.signed, IntKind.bits]
    omega
  have e2 : IntKind.u64.wrap (x : Int) = (x : Int) := by
    unfold IntKind.wrap
    simp [IntKind.signed, IntKind.bits]
    omega
  rw [e1, e2, u64_or_nat _ _ (by omega) (by omega), nat_join 8 _ _ (by omega) (by omega), Nat.mul_comm]

theorem sub_mid (u : Nat) (h : u < 18446744073709551616) : wrap64 (IntKind.u64.wrap ((u : Int) - 9223372036854775808)) = (u : Int) - 9223372036854775808 := by
  unfold wrap64 IntKind.wrap
  simp [IntKind.signed, IntKind.bits]
  omega

set_option maxHeartbeats 1000000 in
set_option maxRecDepth 100000 in
theorem getInt_any (w : World) (ad : Option Addr) (n c : Nat) (l : List UInt8) (hl : l.length = n) (hb : BytesAt w ad l) (hn : 8 ≤ n) (hm : n < 9223372036854775808) :
    Calls Tryz.prog 269 #[.slice ad n c] w fun e w' => e = .returned (.tuple #[.int .i64 ((ofBe (l.take 8) : Int) - 9223372036854775808), .int .i64 8, .bool true]) ∧ w' = w := by
  have HL : Hid (l.length = n) := hl
  clear hl
  go_enter Tryz.func269, Tryz.ntmps269
  go_wp2
  go_loopw [5, 10] (fun v i wr => ∃ j : Nat, j ≤ 8 ∧ i = .int .i64 j ∧ v = .int .u64 (ofBe (l.take j)) ∧ wr = w) (fun _ i _ => 8 - (intOf i).toNat)
  case atStart => exact ⟨0, by omega, rfl, rfl, rfl⟩
  case round =>
    obtain ⟨j, hj, rfl, rfl, rfl⟩ := hrel
    have hA : Hid (ofBe (l.take j) < 256 ^ j) := by
      have h1 := ofBe_lt (l.take j)
      rw [List.length_take, HL.out, Nat.min_eq_left (by omega)] at h1
      exact h1
    by_cases hlt : j < 8
    · have hlt' : (j : Int) < 8 := by omega
      have hj0 : (0 : Int) ≤ (j : Int) := by omega
      have g1 : j < l.length := by rw [HL.out]; omega
      obtain ⟨b1, o1, e1, q1⟩ := hb j (.int .u8 l[j].toNat) (by simp [arr, g1])
      subst e1
      have hjn : (j : Int) < (n : Int) := by omega
      obtain ⟨x, HX⟩ : ∃ x : Int, Hid ((l[j].toNat : Int) = x) := ⟨(l[j].toNat : Int), rfl⟩
      rw [HX.out] at q1
      obtain ⟨A, HA⟩ : ∃ A : Int, Hid ((ofBe (l.take j) : Int) = A) := ⟨_, rfl⟩
      rw [HA.out]
      go_wp2
      refine ⟨⟨j + 1, by omega, by go_num, ?_, trivial⟩, by simp [intOf]; omega⟩
      rw [← HA.out, ← HX.out, kor_low _ _ (Nat.lt_of_lt_of_le hA.out (by
        have : 256 ^ j ≤ 256 ^ 7 := Nat.pow_le_pow_right (by omega) (by omega)
        omega)) (l[j].toNat_lt), List.take_succ_eq_append_getElem g1, ofBe_snoc]
    · obtain rfl : j = 8 := by omega
      obtain ⟨A, HA⟩ : ∃ A : Int, Hid ((ofBe (l.take 8) : Int) = A) := ⟨_, rfl⟩
      rw [HA.out]
      go_wp2
      go_ret3
      rw [← HA.out]
      exact ⟨by rw [sub_mid _ hA.out]; rfl, rfl⟩

end Go.Proofs.YthajipigppndgaaGreat

