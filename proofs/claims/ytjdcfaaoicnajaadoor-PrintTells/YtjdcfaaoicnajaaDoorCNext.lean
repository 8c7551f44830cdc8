/-
  The document's own Next: one character off its bytes.
-/
import Derived.Test.YtjdcfaaoicnajaaDoorCRef
namespace Go.Proofs.YtjdcfaaoicnajaaDoor
open Go.RowKit Go.Maps

/-- the number so far. -/
def acc (base : Nat) (l : List UInt8) : Nat → Nat
  | 0 => 0
  | 1 => (l.getD 0 0).toNat - base
  | j + 2 => acc base l (j + 1) * 64 + ((l.getD (j + 1) 0).toNat - 128)
theorem acc_step (base : Nat) (l : List UInt8) (j : Nat) (h : 1 ≤ j) : acc base l (j + 1) = acc base l j * 64 + ((l.getD j 0).toNat - 128) := by
  obtain ⟨k, rfl⟩ : ∃ k, j = k + 1 := ⟨j - 1, by omega⟩
  rfl
theorem drop_at (s : ByteArray) (p k : Nat) : byteAt (bl s) (p + k) = ((bl s).drop p).getD k 0 := by
  unfold byteAt
  simp [List.getD, List.getElem?_drop]
theorem i32_mul (r x : Nat) (hr : r < 1048576) (hx : x < 256) (h2 : 128 ≤ x) : wrap32 (wrap32 (wrap32 (64 * (r : Int)) + (x : Int)) - 128) = ((r * 64 + (x - 128) : Nat) : Int) := by
  unfold wrap32
  omega
def contTo (l : List UInt8) (j : Nat) : Prop := ∀ k, 1 ≤ k → k < j → cont (l.getD k 0).toNat
theorem acc_two (base : Nat) (l : List UInt8) : acc base l 2 = ((l.getD 0 0).toNat - base) * 64 + ((l.getD 1 0).toNat - 128) := rfl
theorem acc_three (base : Nat) (l : List UInt8) : acc base l 3 = (((l.getD 0 0).toNat - base) * 64 + ((l.getD 1 0).toNat - 128)) * 64 + ((l.getD 2 0).toNat - 128) := rfl
theorem acc_four (base : Nat) (l : List UInt8) : acc base l 4 = ((((l.getD 0 0).toNat - base) * 64 + ((l.getD 1 0).toNat - 128)) * 64 + ((l.getD 2 0).toNat - 128)) * 64 + ((l.getD 3 0).toNat - 128) := rfl
def fine : Nat → Nat → Prop
  | 3, v => 2048 ≤ v ∧ ¬ (55296 ≤ v ∧ v ≤ 57343)
  | 4, v => 65536 ≤ v ∧ v ≤ 1114111
  | _, _ => True

theorem nx_two_short (l : List UInt8) (h1 : 194 ≤ (l.getD 0 0).toNat) (h2 : (l.getD 0 0).toNat ≤ 223) (hl : l.length < 2) : nx l = (0, 0) := by
  unfold nx nxN
  rw [if_neg (by omega), if_pos ⟨h1, h2⟩, if_neg (fun h => by have := h.1; omega)]
theorem nx_two_bad (l : List UInt8) (h1 : 194 ≤ (l.getD 0 0).toNat) (h2 : (l.getD 0 0).toNat ≤ 223) (j : Nat) (hj : 1 ≤ j) (hj2 : j < 2) (hc : ¬ cont (l.getD j 0).toNat) : nx l = (0, 0) := by
  unfold nx nxN
  rw [if_neg (by omega), if_pos ⟨h1, h2⟩, if_neg (fun h => ?_)]

  obtain rfl : j = 1 := by omega
  exact hc h.2

theorem nx_two_ok (l : List UInt8) (h1 : 194 ≤ (l.getD 0 0).toNat) (h2 : (l.getD 0 0).toNat ≤ 223) (hl : 2 ≤ l.length) (hc : contTo l 2) : nx l = (acc 192 l 2, 2) := by
  unfold nx nxN
  rw [if_neg (by omega), if_pos ⟨h1, h2⟩, if_pos ⟨hl, hc 1 (by omega) (by omega)⟩]
  rfl

set_option maxHeartbeats 4000000 in
set_option maxRecDepth 100000 in
theorem next_two (w : World) (s : ByteArray) (p : Nat) (h : p < s.size) (hz : s.size < 140737488355328) (b0 : Nat) (hb0 : (byteAt (bl s) p).toNat = b0) (h1 : 194 ≤ b0) (h2 : b0 ≤ 223) (R N : Nat) (HA : Hid (nx ((bl s).drop p) = (R, N))) :
    Calls Tryd.prog 66 #[.string s, .int .i64 p] w fun e w' => e = .returned (.tuple #[.int .i32 R, .int .i64 N]) ∧ w' = w := by
  have hp0 : (0 : Int) ≤ (p : Int) := by omega
  have hpz : (p : Int) < 140737488355328 := by omega
  have hix := run_idx s (p : Int) p rfl h
  rw [hb0] at hix
  have h1z : (194 : Int) ≤ (b0 : Int) := by omega
  have h2z : (b0 : Int) ≤ 223 := by omega
  have h3z : ¬ (b0 : Int) < 128 := by omega
  have hcv : wrap32 (b0 : Int) = (b0 : Int) := by unfold wrap32; omega
  have hsb : wrap32 ((b0 : Int) - 192) = ((b0 - 192 : Nat) : Int) := by unfold wrap32; omega
  have HB : Hid ((((bl s).drop p).getD 0 0).toNat = b0) := by
    have e := drop_at s p 0
    rw [Nat.add_zero] at e
    rw [← e]
    exact hb0
  have HL : Hid (((bl s).drop p).length = s.size - p) := by show _ = _; rw [List.length_drop, bl_length]
  have H1 : Hid (194 ≤ (((bl s).drop p).getD 0 0).toNat) := by show _ ≤ _; rw [HB.out]; exact h1
  have H2 : Hid ((((bl s).drop p).getD 0 0).toNat ≤ 223) := by show _ ≤ _; rw [HB.out]; exact h2
  have HX0 : Hid (b0 ≤ 223) := h2

  clear hb0 h1 h2
  have hw : wrap64 ((p : Int) + 2) = (p : Int) + 2 := by unfold wrap64; omega
  by_cases hl : p + 2 ≤ s.size
  · have hlz : ¬ (s.size : Int) < (p : Int) + 2 := by omega
    obtain ⟨l, hl'⟩ : ∃ l, (bl s).drop p = l := ⟨_, rfl⟩
    have HD : Hid (∀ k, byteAt (bl s) (p + k) = l.getD k 0) := fun k => by rw [drop_at, hl']
    rw [hl'] at HA HB HL H1 H2
    clear hl'
    go_enter Tryd.func66, Tryd.ntmps66
    go_wp2
    go_loopw [8, 9] (fun r i wr => ∃ j : Nat, 1 ≤ j ∧ j ≤ 2 ∧ i = .int .i64 j ∧ r = .int .i32 (acc 192 l j : Nat) ∧ wr = w ∧ Hid (contTo l j) ∧ Hid (acc 192 l j < 64 ^ j)) (fun _ i _ => 2 - (intOf i).toNat)
    case atStart =>
      refine ⟨1, by omega, by omega, rfl, ?_, rfl, fun k h1 h2 => absurd h2 (by omega), ?_⟩
      · have e : (b0 : Int) - 192 = ((b0 - 192 : Nat) : Int) := by omega
        show Value.int .i32 ((b0 : Int) - 192) = Value.int .i32 (((l.getD 0 0).toNat - 192 : Nat) : Int)
        rw [HB.out, e]
      · show (l.getD 0 0).toNat - 192 < 64 ^ 1
        rw [HB.out]
        have := HX0.out
        omega
    case round =>
      obtain ⟨j, hj1, hj2, rfl, rfl, rfl, hC, hB⟩ := hrel
      by_cases hlt : j < 2
      · have hlt' : (j : Int) < 2 := by omega
        have hj0 : (0 : Int) ≤ (j : Int) := by omega
        have hixj := run_idx s ((p : Int) + (j : Int)) (p + j) (by omega) (by omega)
        rw [HD.out j] at hixj
        have hwj : wrap64 ((p : Int) + (j : Int)) = (p : Int) + (j : Int) := by unfold wrap64; omega
        obtain ⟨X, HX⟩ : ∃ X : Nat, Hid ((l.getD j 0).toNat = X) := ⟨_, rfl⟩
        have hX : Hid (X < 256) := by rw [← HX.out]; exact UInt8.toNat_lt _
        rw [HX.out] at hixj
        have hcx : wrap32 (X : Int) = (X : Int) := by have := hX.out; unfold wrap32; omega
        by_cases x1 : X < 128
        · have x1z : (X : Int) < 128 := by omega
          have HN : Hid ((R, N) = (0, 0)) := HA.out.symm.trans (nx_two_bad l H1.out H2.out j hj1 hlt (by rw [HX.out]; unfold cont; omega))
          obtain ⟨rfl, rfl⟩ := Prod.mk.inj HN.out
          go_wp2
          go_ret2
          exact ⟨rfl, by first | rfl | trivial⟩
        · have x1z : ¬ (X : Int) < 128 := by omega
          by_cases x2 : 191 < X
          · have x2z : (191 : Int) < (X : Int) := by omega
            have HN : Hid ((R, N) = (0, 0)) := HA.out.symm.trans (nx_two_bad l H1.out H2.out j hj1 hlt (by rw [HX.out]; unfold cont; omega))
            obtain ⟨rfl, rfl⟩ := Prod.mk.inj HN.out
            go_wp2
            go_ret2
            exact ⟨rfl, by first | rfl | trivial⟩
          · have x2z : ¬ (191 : Int) < (X : Int) := by omega
            have HS := Hid.mk (acc_step 192 l j hj1)
            have hb2 : Hid (acc 192 l j < 1048576) := by
              have h1 := hB.out
              have h2 : 64 ^ j ≤ 64 ^ 3 := Nat.pow_le_pow_right (by omega) (by omega)
              exact Nat.lt_of_lt_of_le h1 (by omega)
            have HM := Hid.mk (i32_mul (acc 192 l j) X hb2.out hX.out (by omega))
            have HC2 : Hid (contTo l (j + 1)) := fun k k1 k2 => by
              by_cases e : k = j
              · subst e; rw [HX.out]; unfold cont; omega
              · exact hC.out k k1 (by omega)
            have HB2 : Hid (acc 192 l (j + 1) < 64 ^ (j + 1)) := by
              show _ < _
              rw [HS.out, HX.out, Nat.pow_succ]
              have := hB.out
              have := hX.out
              omega
            have hst : Hid (acc 192 l j * 64 + (X - 128) = acc 192 l (j + 1)) := by show _ = _; rw [HS.out, HX.out]
            generalize acc 192 l j = A at HM hst ⊢
            have HMM : Hid (wrap32 (wrap32 (wrap32 (64 * (A : Int)) + (X : Int)) - 128) = ((acc 192 l (j + 1) : Nat) : Int)) := by rw [← hst.out]; exact HM.out
            clear HS HM hst hb2 hB hC
            go_wp2
            exact ⟨⟨j + 1, by omega, by omega, by go_num, congrArg (Value.int .i32) HMM.out, by first | rfl | trivial, HC2, HB2⟩, by simp [intOf]; omega⟩
      · obtain rfl : j = 2 := by omega
        obtain ⟨V, hV⟩ : ∃ V, acc 192 l 2 = V := ⟨_, rfl⟩
        have HV := Hid.mk hV
        rw [hV] at hB
        rw [hV]
        clear hV
        have HLN : Hid (2 ≤ l.length) := by show _ ≤ _; rw [HL.out]; omega

        have HN : Hid ((R, N) = (V, 2)) := HA.out.symm.trans (by rw [← HV.out]; exact nx_two_ok l H1.out H2.out HLN.out hC.out)
        obtain ⟨rfl, rfl⟩ := Prod.mk.inj HN.out
        go_wp2
        go_ret2
        exact ⟨rfl, by first | rfl | trivial⟩

  · have hlz : (s.size : Int) < (p : Int) + 2 := by omega
    have HN : Hid ((R, N) = (0, 0)) := HA.out.symm.trans (nx_two_short _ H1.out H2.out (by rw [HL.out]; omega))
    obtain ⟨rfl, rfl⟩ := Prod.mk.inj HN.out
    clear HB HL H1 H2 HA
    go_enter Tryd.func66, Tryd.ntmps66
    go_wp2
    go_ret2
    exact ⟨rfl, by first | rfl | trivial⟩

theorem nx_three_short (l : List UInt8) (h1 : 224 ≤ (l.getD 0 0).toNat) (h2 : (l.getD 0 0).toNat ≤ 239) (hl : l.length < 3) : nx l = (0, 0) := by
  unfold nx nxN
  rw [if_neg (by omega), if_neg (by omega), if_pos ⟨h1, h2⟩, if_neg (fun h => by have := h.1.1; omega)]
theorem nx_three_bad (l : List UInt8) (h1 : 224 ≤ (l.getD 0 0).toNat) (h2 : (l.getD 0 0).toNat ≤ 239) (j : Nat) (hj : 1 ≤ j) (hj2 : j < 3) (hc : ¬ cont (l.getD j 0).toNat) : nx l = (0, 0) := by
  unfold nx nxN
  rw [if_neg (by omega), if_neg (by omega), if_pos ⟨h1, h2⟩, if_neg (fun h => ?_)]

  rcases (by omega : j = 1 ∨ j = 2) with rfl | rfl
  · exact hc h.1.2.1
  · exact hc h.1.2.2

theorem nx_three_ok (l : List UInt8) (h1 : 224 ≤ (l.getD 0 0).toNat) (h2 : (l.getD 0 0).toNat ≤ 239) (hl : 3 ≤ l.length) (hc : contTo l 3) (hf : fine 3 (acc 224 l 3)) : nx l = (acc 224 l 3, 3) := by
  unfold fine at hf
  rw [acc_three] at hf ⊢
  unfold nx nxN
  rw [if_neg (by omega), if_neg (by omega), if_pos ⟨h1, h2⟩, if_pos ⟨⟨hl, hc 1 (by omega) (by omega), hc 2 (by omega) (by omega)⟩, hf⟩]
theorem nx_three_no (l : List UInt8) (h1 : 224 ≤ (l.getD 0 0).toNat) (h2 : (l.getD 0 0).toNat ≤ 239) (hf : ¬ fine 3 (acc 224 l 3)) : nx l = (0, 0) := by
  unfold fine at hf
  rw [acc_three] at hf
  unfold nx nxN
  rw [if_neg (by omega), if_neg (by omega), if_pos ⟨h1, h2⟩, if_neg (fun h => hf h.2)]

set_option maxHeartbeats 4000000 in
set_option maxRecDepth 100000 in
theorem next_three (w : World) (s : ByteArray) (p : Nat) (h : p < s.size) (hz : s.size < 140737488355328) (b0 : Nat) (hb0 : (byteAt (bl s) p).toNat = b0) (h1 : 224 ≤ b0) (h2 : b0 ≤ 239) (R N : Nat) (HA : Hid (nx ((bl s).drop p) = (R, N))) :
    Calls Tryd.prog 66 #[.string s, .int .i64 p] w fun e w' => e = .returned (.tuple #[.int .i32 R, .int .i64 N]) ∧ w' = w := by
  have hp0 : (0 : Int) ≤ (p : Int) := by omega
  have hpz : (p : Int) < 140737488355328 := by omega
  have hix := run_idx s (p : Int) p rfl h
  rw [hb0] at hix
  have h1z : (224 : Int) ≤ (b0 : Int) := by omega
  have h2z : (b0 : Int) ≤ 239 := by omega
  have h3z : ¬ (b0 : Int) < 128 := by omega
  have hcv : wrap32 (b0 : Int) = (b0 : Int) := by unfold wrap32; omega
  have hsb : wrap32 ((b0 : Int) - 224) = ((b0 - 224 : Nat) : Int) := by unfold wrap32; omega
  have HB : Hid ((((bl s).drop p).getD 0 0).toNat = b0) := by
    have e := drop_at s p 0
    rw [Nat.add_zero] at e
    rw [← e]
    exact hb0
  have HL : Hid (((bl s).drop p).length = s.size - p) := by show _ = _; rw [List.length_drop, bl_length]
  have H1 : Hid (224 ≤ (((bl s).drop p).getD 0 0).toNat) := by show _ ≤ _; rw [HB.out]; exact h1
  have H2 : Hid ((((bl s).drop p).getD 0 0).toNat ≤ 239) := by show _ ≤ _; rw [HB.out]; exact h2
  have HX0 : Hid (b0 ≤ 239) := h2

  have h4z : ¬ (b0 : Int) ≤ 223 := by omega
  have h6z : (194 : Int) ≤ (b0 : Int) := by omega

  clear hb0 h1 h2
  have hw : wrap64 ((p : Int) + 3) = (p : Int) + 3 := by unfold wrap64; omega
  by_cases hl : p + 3 ≤ s.size
  · have hlz : ¬ (s.size : Int) < (p : Int) + 3 := by omega
    obtain ⟨l, hl'⟩ : ∃ l, (bl s).drop p = l := ⟨_, rfl⟩
    have HD : Hid (∀ k, byteAt (bl s) (p + k) = l.getD k 0) := fun k => by rw [drop_at, hl']
    rw [hl'] at HA HB HL H1 H2
    clear hl'
    go_enter Tryd.func66, Tryd.ntmps66
    go_wp2
    go_loopw [8, 9] (fun r i wr => ∃ j : Nat, 1 ≤ j ∧ j ≤ 3 ∧ i = .int .i64 j ∧ r = .int .i32 (acc 224 l j : Nat) ∧ wr = w ∧ Hid (contTo l j) ∧ Hid (acc 224 l j < 64 ^ j)) (fun _ i _ => 3 - (intOf i).toNat)
    case atStart =>
      refine ⟨1, by omega, by omega, rfl, ?_, rfl, fun k h1 h2 => absurd h2 (by omega), ?_⟩
      · have e : (b0 : Int) - 224 = ((b0 - 224 : Nat) : Int) := by omega
        show Value.int .i32 ((b0 : Int) - 224) = Value.int .i32 (((l.getD 0 0).toNat - 224 : Nat) : Int)
        rw [HB.out, e]
      · show (l.getD 0 0).toNat - 224 < 64 ^ 1
        rw [HB.out]
        have := HX0.out
        omega
    case round =>
      obtain ⟨j, hj1, hj2, rfl, rfl, rfl, hC, hB⟩ := hrel
      by_cases hlt : j < 3
      · have hlt' : (j : Int) < 3 := by omega
        have hj0 : (0 : Int) ≤ (j : Int) := by omega
        have hixj := run_idx s ((p : Int) + (j : Int)) (p + j) (by omega) (by omega)
        rw [HD.out j] at hixj
        have hwj : wrap64 ((p : Int) + (j : Int)) = (p : Int) + (j : Int) := by unfold wrap64; omega
        obtain ⟨X, HX⟩ : ∃ X : Nat, Hid ((l.getD j 0).toNat = X) := ⟨_, rfl⟩
        have hX : Hid (X < 256) := by rw [← HX.out]; exact UInt8.toNat_lt _
        rw [HX.out] at hixj
        have hcx : wrap32 (X : Int) = (X : Int) := by have := hX.out; unfold wrap32; omega
        by_cases x1 : X < 128
        · have x1z : (X : Int) < 128 := by omega
          have HN : Hid ((R, N) = (0, 0)) := HA.out.symm.trans (nx_three_bad l H1.out H2.out j hj1 hlt (by rw [HX.out]; unfold cont; omega))
          obtain ⟨rfl, rfl⟩ := Prod.mk.inj HN.out
          go_wp2
          go_ret2
          exact ⟨rfl, by first | rfl | trivial⟩
        · have x1z : ¬ (X : Int) < 128 := by omega
          by_cases x2 : 191 < X
          · have x2z : (191 : Int) < (X : Int) := by omega
            have HN : Hid ((R, N) = (0, 0)) := HA.out.symm.trans (nx_three_bad l H1.out H2.out j hj1 hlt (by rw [HX.out]; unfold cont; omega))
            obtain ⟨rfl, rfl⟩ := Prod.mk.inj HN.out
            go_wp2
            go_ret2
            exact ⟨rfl, by first | rfl | trivial⟩
          · have x2z : ¬ (191 : Int) < (X : Int) := by omega
            have HS := Hid.mk (acc_step 224 l j hj1)
            have hb2 : Hid (acc 224 l j < 1048576) := by
              have h1 := hB.out
              have h2 : 64 ^ j ≤ 64 ^ 3 := Nat.pow_le_pow_right (by omega) (by omega)
              exact Nat.lt_of_lt_of_le h1 (by omega)
            have HM := Hid.mk (i32_mul (acc 224 l j) X hb2.out hX.out (by omega))
            have HC2 : Hid (contTo l (j + 1)) := fun k k1 k2 => by
              by_cases e : k = j
              · subst e; rw [HX.out]; unfold cont; omega
              · exact hC.out k k1 (by omega)
            have HB2 : Hid (acc 224 l (j + 1) < 64 ^ (j + 1)) := by
              show _ < _
              rw [HS.out, HX.out, Nat.pow_succ]
              have := hB.out
              have := hX.out
              omega
            have hst : Hid (acc 224 l j * 64 + (X - 128) = acc 224 l (j + 1)) := by show _ = _; rw [HS.out, HX.out]
            generalize acc 224 l j = A at HM hst ⊢
            have HMM : Hid (wrap32 (wrap32 (wrap32 (64 * (A : Int)) + (X : Int)) - 128) = ((acc 224 l (j + 1) : Nat) : Int)) := by rw [← hst.out]; exact HM.out
            clear HS HM hst hb2 hB hC
            go_wp2
            exact ⟨⟨j + 1, by omega, by omega, by go_num, congrArg (Value.int .i32) HMM.out, by first | rfl | trivial, HC2, HB2⟩, by simp [intOf]; omega⟩
      · obtain rfl : j = 3 := by omega
        obtain ⟨V, hV⟩ : ∃ V, acc 224 l 3 = V := ⟨_, rfl⟩
        have HV := Hid.mk hV
        rw [hV] at hB
        rw [hV]
        clear hV
        have HLN : Hid (3 ≤ l.length) := by show _ ≤ _; rw [HL.out]; omega

        by_cases v1 : V < 2048
        · have v1z : (V : Int) < 2048 := by omega
          have HN : Hid ((R, N) = (0, 0)) := HA.out.symm.trans (nx_three_no l H1.out H2.out (by rw [HV.out]; exact fun h => by have h : 2048 ≤ V ∧ ¬ (55296 ≤ V ∧ V ≤ 57343) := h; omega))
          obtain ⟨rfl, rfl⟩ := Prod.mk.inj HN.out
          go_wp2
          go_ret2
          exact ⟨rfl, by first | rfl | trivial⟩
        · have v1z : ¬ (V : Int) < 2048 := by omega
          by_cases v2 : 55296 ≤ V ∧ V ≤ 57343
          · have c2 : wi (V : Int) 55296 57343 = true := decide_eq_true (by omega)
            have HN : Hid ((R, N) = (0, 0)) := HA.out.symm.trans (nx_three_no l H1.out H2.out (by rw [HV.out]; exact fun h => by have h : 2048 ≤ V ∧ ¬ (55296 ≤ V ∧ V ≤ 57343) := h; omega))
            obtain ⟨rfl, rfl⟩ := Prod.mk.inj HN.out
            go_wp2_with (go_at_call 77; refine (within_any _ _ _ _).mono ?_; rintro e w5 ⟨rfl, rfl⟩)
            go_ret2
            exact ⟨rfl, by first | rfl | trivial⟩
          · have c2 : wi (V : Int) 55296 57343 = false := decide_eq_false (by omega)
            have HN : Hid ((R, N) = (V, 3)) := HA.out.symm.trans (by rw [← HV.out]; exact nx_three_ok l H1.out H2.out HLN.out hC.out (by rw [HV.out]; exact ⟨by omega, by omega⟩))
            obtain ⟨rfl, rfl⟩ := Prod.mk.inj HN.out
            clear v2
            go_wp2_with (go_at_call 77; refine (within_any _ _ _ _).mono ?_; rintro e w5 ⟨rfl, rfl⟩)
            go_ret2
            exact ⟨rfl, by first | rfl | trivial⟩

  · have hlz : (s.size : Int) < (p : Int) + 3 := by omega
    have HN : Hid ((R, N) = (0, 0)) := HA.out.symm.trans (nx_three_short _ H1.out H2.out (by rw [HL.out]; omega))
    obtain ⟨rfl, rfl⟩ := Prod.mk.inj HN.out
    clear HB HL H1 H2 HA
    go_enter Tryd.func66, Tryd.ntmps66
    go_wp2
    go_ret2
    exact ⟨rfl, by first | rfl | trivial⟩

theorem nx_four_short (l : List UInt8) (h1 : 240 ≤ (l.getD 0 0).toNat) (h2 : (l.getD 0 0).toNat ≤ 244) (hl : l.length < 4) : nx l = (0, 0) := by
  unfold nx nxN
  rw [if_neg (by omega), if_neg (by omega), if_neg (by omega), if_pos ⟨h1, h2⟩, if_neg (fun h => by have := h.1.1; omega)]
theorem nx_four_bad (l : List UInt8) (h1 : 240 ≤ (l.getD 0 0).toNat) (h2 : (l.getD 0 0).toNat ≤ 244) (j : Nat) (hj : 1 ≤ j) (hj2 : j < 4) (hc : ¬ cont (l.getD j 0).toNat) : nx l = (0, 0) := by
  unfold nx nxN
  rw [if_neg (by omega), if_neg (by omega), if_neg (by omega), if_pos ⟨h1, h2⟩, if_neg (fun h => ?_)]

  rcases (by omega : j = 1 ∨ j = 2 ∨ j = 3) with rfl | rfl | rfl
  · exact hc h.1.2.1
  · exact hc h.1.2.2.1
  · exact hc h.1.2.2.2

theorem nx_four_ok (l : List UInt8) (h1 : 240 ≤ (l.getD 0 0).toNat) (h2 : (l.getD 0 0).toNat ≤ 244) (hl : 4 ≤ l.length) (hc : contTo l 4) (hf : fine 4 (acc 240 l 4)) : nx l = (acc 240 l 4, 4) := by
  unfold fine at hf
  rw [acc_four] at hf ⊢
  unfold nx nxN
  rw [if_neg (by omega), if_neg (by omega), if_neg (by omega), if_pos ⟨h1, h2⟩, if_pos ⟨⟨hl, hc 1 (by omega) (by omega), hc 2 (by omega) (by omega), hc 3 (by omega) (by omega)⟩, hf⟩]
theorem nx_four_no (l : List UInt8) (h1 : 240 ≤ (l.getD 0 0).toNat) (h2 : (l.getD 0 0).toNat ≤ 244) (hf : ¬ fine 4 (acc 240 l 4)) : nx l = (0, 0) := by
  unfold fine at hf
  rw [acc_four] at hf
  unfold nx nxN
  rw [if_neg (by omega), if_neg (by omega), if_neg (by omega), if_pos ⟨h1, h2⟩, if_neg (fun h => hf h.2)]

set_option maxHeartbeats 4000000 in
set_option maxRecDepth 100000 in
theorem next_four (w : World) (s : ByteArray) (p : Nat) (h : p < s.size) (hz : s.size < 140737488355328) (b0 : Nat) (hb0 : (byteAt (bl s) p).toNat = b0) (h1 : 240 ≤ b0) (h2 : b0 ≤ 244) (R N : Nat) (HA : Hid (nx ((bl s).drop p) = (R, N))) :
    Calls Tryd.prog 66 #[.string s, .int .i64 p] w fun e w' => e = .returned (.tuple #[.int .i32 R, .int .i64 N]) ∧ w' = w := by
  have hp0 : (0 : Int) ≤ (p : Int) := by omega
  have hpz : (p : Int) < 140737488355328 := by omega
  have hix := run_idx s (p : Int) p rfl h
  rw [hb0] at hix
  have h1z : (240 : Int) ≤ (b0 : Int) := by omega
  have h2z : (b0 : Int) ≤ 244 := by omega
  have h3z : ¬ (b0 : Int) < 128 := by omega
  have hcv : wrap32 (b0 : Int) = (b0 : Int) := by unfold wrap32; omega
  have hsb : wrap32 ((b0 : Int) - 240) = ((b0 - 240 : Nat) : Int) := by unfold wrap32; omega
  have HB : Hid ((((bl s).drop p).getD 0 0).toNat = b0) := by
    have e := drop_at s p 0
    rw [Nat.add_zero] at e
    rw [← e]
    exact hb0
  have HL : Hid (((bl s).drop p).length = s.size - p) := by show _ = _; rw [List.length_drop, bl_length]
  have H1 : Hid (240 ≤ (((bl s).drop p).getD 0 0).toNat) := by show _ ≤ _; rw [HB.out]; exact h1
  have H2 : Hid ((((bl s).drop p).getD 0 0).toNat ≤ 244) := by show _ ≤ _; rw [HB.out]; exact h2
  have HX0 : Hid (b0 ≤ 244) := h2

  have h4z : ¬ (b0 : Int) ≤ 223 := by omega
  have h6z : (194 : Int) ≤ (b0 : Int) := by omega

  have h5z : ¬ (b0 : Int) ≤ 239 := by omega
  have h7z : (224 : Int) ≤ (b0 : Int) := by omega

  clear hb0 h1 h2
  have hw : wrap64 ((p : Int) + 4) = (p : Int) + 4 := by unfold wrap64; omega
  by_cases hl : p + 4 ≤ s.size
  · have hlz : ¬ (s.size : Int) < (p : Int) + 4 := by omega
    obtain ⟨l, hl'⟩ : ∃ l, (bl s).drop p = l := ⟨_, rfl⟩
    have HD : Hid (∀ k, byteAt (bl s) (p + k) = l.getD k 0) := fun k => by rw [drop_at, hl']
    rw [hl'] at HA HB HL H1 H2
    clear hl'
    go_enter Tryd.func66, Tryd.ntmps66
    go_wp2
    go_loopw [8, 9] (fun r i wr => ∃ j : Nat, 1 ≤ j ∧ j ≤ 4 ∧ i = .int .i64 j ∧ r = .int .i32 (acc 240 l j : Nat) ∧ wr = w ∧ Hid (contTo l j) ∧ Hid (acc 240 l j < 64 ^ j)) (fun _ i _ => 4 - (intOf i).toNat)
    case atStart =>
      refine ⟨1, by omega, by omega, rfl, ?_, rfl, fun k h1 h2 => absurd h2 (by omega), ?_⟩
      · have e : (b0 : Int) - 240 = ((b0 - 240 : Nat) : Int) := by omega
        show Value.int .i32 ((b0 : Int) - 240) = Value.int .i32 (((l.getD 0 0).toNat - 240 : Nat) : Int)
        rw [HB.out, e]
      · show (l.getD 0 0).toNat - 240 < 64 ^ 1
        rw [HB.out]
        have := HX0.out
        omega
    case round =>
      obtain ⟨j, hj1, hj2, rfl, rfl, rfl, hC, hB⟩ := hrel
      by_cases hlt : j < 4
      · have hlt' : (j : Int) < 4 := by omega
        have hj0 : (0 : Int) ≤ (j : Int) := by omega
        have hixj := run_idx s ((p : Int) + (j : Int)) (p + j) (by omega) (by omega)
        rw [HD.out j] at hixj
        have hwj : wrap64 ((p : Int) + (j : Int)) = (p : Int) + (j : Int) := by unfold wrap64; omega
        obtain ⟨X, HX⟩ : ∃ X : Nat, Hid ((l.getD j 0).toNat = X) := ⟨_, rfl⟩
        have hX : Hid (X < 256) := by rw [← HX.out]; exact UInt8.toNat_lt _
        rw [HX.out] at hixj
        have hcx : wrap32 (X : Int) = (X : Int) := by have := hX.out; unfold wrap32; omega
        by_cases x1 : X < 128
        · have x1z : (X : Int) < 128 := by omega
          have HN : Hid ((R, N) = (0, 0)) := HA.out.symm.trans (nx_four_bad l H1.out H2.out j hj1 hlt (by rw [HX.out]; unfold cont; omega))
          obtain ⟨rfl, rfl⟩ := Prod.mk.inj HN.out
          go_wp2
          go_ret2
          exact ⟨rfl, by first | rfl | trivial⟩
        · have x1z : ¬ (X : Int) < 128 := by omega
          by_cases x2 : 191 < X
          · have x2z : (191 : Int) < (X : Int) := by omega
            have HN : Hid ((R, N) = (0, 0)) := HA.out.symm.trans (nx_four_bad l H1.out H2.out j hj1 hlt (by rw [HX.out]; unfold cont; omega))
            obtain ⟨rfl, rfl⟩ := Prod.mk.inj HN.out
            go_wp2
            go_ret2
            exact ⟨rfl, by first | rfl | trivial⟩
          · have x2z : ¬ (191 : Int) < (X : Int) := by omega
            have HS := Hid.mk (acc_step 240 l j hj1)
            have hb2 : Hid (acc 240 l j < 1048576) := by
              have h1 := hB.out
              have h2 : 64 ^ j ≤ 64 ^ 3 := Nat.pow_le_pow_right (by omega) (by omega)
              exact Nat.lt_of_lt_of_le h1 (by omega)
            have HM := Hid.mk (i32_mul (acc 240 l j) X hb2.out hX.out (by omega))
            have HC2 : Hid (contTo l (j + 1)) := fun k k1 k2 => by
              by_cases e : k = j
              · subst e; rw [HX.out]; unfold cont; omega
              · exact hC.out k k1 (by omega)
            have HB2 : Hid (acc 240 l (j + 1) < 64 ^ (j + 1)) := by
              show _ < _
              rw [HS.out, HX.out, Nat.pow_succ]
              have := hB.out
              have := hX.out
              omega
            have hst : Hid (acc 240 l j * 64 + (X - 128) = acc 240 l (j + 1)) := by show _ = _; rw [HS.out, HX.out]
            generalize acc 240 l j = A at HM hst ⊢
            have HMM : Hid (wrap32 (wrap32 (wrap32 (64 * (A : Int)) + (X : Int)) - 128) = ((acc 240 l (j + 1) : Nat) : Int)) := by rw [← hst.out]; exact HM.out
            clear HS HM hst hb2 hB hC
            go_wp2
            exact ⟨⟨j + 1, by omega, by omega, by go_num, congrArg (Value.int .i32) HMM.out, by first | rfl | trivial, HC2, HB2⟩, by simp [intOf]; omega⟩
      · obtain rfl : j = 4 := by omega
        obtain ⟨V, hV⟩ : ∃ V, acc 240 l 4 = V := ⟨_, rfl⟩
        have HV := Hid.mk hV
        rw [hV] at hB
        rw [hV]
        clear hV
        have HLN : Hid (4 ≤ l.length) := by show _ ≤ _; rw [HL.out]; omega

        by_cases v1 : V < 65536
        · have v1z : (V : Int) < 65536 := by omega
          have HN : Hid ((R, N) = (0, 0)) := HA.out.symm.trans (nx_four_no l H1.out H2.out (by rw [HV.out]; exact fun h => by have h : 65536 ≤ V ∧ V ≤ 1114111 := h; omega))
          obtain ⟨rfl, rfl⟩ := Prod.mk.inj HN.out
          go_wp2
          go_ret2
          exact ⟨rfl, by first | rfl | trivial⟩
        · have v1z : ¬ (V : Int) < 65536 := by omega
          by_cases v2 : 1114111 < V
          · have v2z : (1114111 : Int) < (V : Int) := by omega
            have HN : Hid ((R, N) = (0, 0)) := HA.out.symm.trans (nx_four_no l H1.out H2.out (by rw [HV.out]; exact fun h => by have h : 65536 ≤ V ∧ V ≤ 1114111 := h; omega))
            obtain ⟨rfl, rfl⟩ := Prod.mk.inj HN.out
            go_wp2
            go_ret2
            exact ⟨rfl, by first | rfl | trivial⟩
          · have v2z : ¬ (1114111 : Int) < (V : Int) := by omega
            have HN : Hid ((R, N) = (V, 4)) := HA.out.symm.trans (by rw [← HV.out]; exact nx_four_ok l H1.out H2.out HLN.out hC.out (by rw [HV.out]; exact ⟨by omega, by omega⟩))
            obtain ⟨rfl, rfl⟩ := Prod.mk.inj HN.out
            go_wp2
            go_ret2
            exact ⟨rfl, by first | rfl | trivial⟩

  · have hlz : (s.size : Int) < (p : Int) + 4 := by omega
    have HN : Hid ((R, N) = (0, 0)) := HA.out.symm.trans (nx_four_short _ H1.out H2.out (by rw [HL.out]; omega))
    obtain ⟨rfl, rfl⟩ := Prod.mk.inj HN.out
    clear HB HL H1 H2 HA
    go_enter Tryd.func66, Tryd.ntmps66
    go_wp2
    go_ret2
    exact ⟨rfl, by first | rfl | trivial⟩

set_option maxHeartbeats 4000000 in
set_option maxRecDepth 100000 in
theorem next_low (w : World) (s : ByteArray) (p : Nat) (h : p < s.size) (hz : s.size < 140737488355328) (b0 : Nat) (hb0 : (byteAt (bl s) p).toNat = b0) (h1 : b0 < 128) :
    Calls Tryd.prog 66 #[.string s, .int .i64 p] w fun e w' => e = .returned (.tuple #[.int .i32 b0, .int .i64 1]) ∧ w' = w := by
  have hp0 : (0 : Int) ≤ (p : Int) := by omega
  have hpz : (p : Int) < 140737488355328 := by omega
  have hix := run_idx s (p : Int) p rfl h
  rw [hb0] at hix
  have hlt : b0 < 256 := by rw [← hb0]; exact UInt8.toNat_lt _
  have hcv : wrap32 (b0 : Int) = (b0 : Int) := by unfold wrap32; omega
  have h1z : (b0 : Int) < 128 := by omega
  clear h1 hlt
  clear hb0
  go_enter Tryd.func66, Tryd.ntmps66
  go_wp2
  go_ret2
  exact ⟨rfl, by first | rfl | trivial⟩

set_option maxHeartbeats 4000000 in
set_option maxRecDepth 100000 in
theorem next_none1 (w : World) (s : ByteArray) (p : Nat) (h : p < s.size) (hz : s.size < 140737488355328) (b0 : Nat) (hb0 : (byteAt (bl s) p).toNat = b0) (h1 : 128 ≤ b0) (h2 : b0 < 194) :
    Calls Tryd.prog 66 #[.string s, .int .i64 p] w fun e w' => e = .returned (.tuple #[.int .i32 0, .int .i64 0]) ∧ w' = w := by
  have hp0 : (0 : Int) ≤ (p : Int) := by omega
  have hpz : (p : Int) < 140737488355328 := by omega
  have hix := run_idx s (p : Int) p rfl h
  rw [hb0] at hix
  have hlt : b0 < 256 := by rw [← hb0]; exact UInt8.toNat_lt _
  have hcv : wrap32 (b0 : Int) = (b0 : Int) := by unfold wrap32; omega
  have h1z : ¬ (b0 : Int) < 128 := by omega
  have h2z : ¬ (194 : Int) ≤ (b0 : Int) := by omega
  have h3z : ¬ (224 : Int) ≤ (b0 : Int) := by omega
  have h4z : ¬ (240 : Int) ≤ (b0 : Int) := by omega
  clear h1 h2 hlt
  clear hb0
  go_enter Tryd.func66, Tryd.ntmps66
  go_wp2
  go_ret2
  exact ⟨rfl, by first | rfl | trivial⟩

set_option maxHeartbeats 4000000 in
set_option maxRecDepth 100000 in
theorem next_none2 (w : World) (s : ByteArray) (p : Nat) (h : p < s.size) (hz : s.size < 140737488355328) (b0 : Nat) (hb0 : (byteAt (bl s) p).toNat = b0) (h1 : 245 ≤ b0) :
    Calls Tryd.prog 66 #[.string s, .int .i64 p] w fun e w' => e = .returned (.tuple #[.int .i32 0, .int .i64 0]) ∧ w' = w := by
  have hp0 : (0 : Int) ≤ (p : Int) := by omega
  have hpz : (p : Int) < 140737488355328 := by omega
  have hix := run_idx s (p : Int) p rfl h
  rw [hb0] at hix
  have hlt : b0 < 256 := by rw [← hb0]; exact UInt8.toNat_lt _
  have hcv : wrap32 (b0 : Int) = (b0 : Int) := by unfold wrap32; omega
  have h1z : ¬ (b0 : Int) < 128 := by omega
  have h2z : (194 : Int) ≤ (b0 : Int) := by omega
  have h3z : (224 : Int) ≤ (b0 : Int) := by omega
  have h4z : (240 : Int) ≤ (b0 : Int) := by omega
  have h5z : ¬ (b0 : Int) ≤ 223 := by omega
  have h6z : ¬ (b0 : Int) ≤ 239 := by omega
  have h7z : ¬ (b0 : Int) ≤ 244 := by omega
  clear h1 hlt
  clear hb0
  go_enter Tryd.func66, Tryd.ntmps66
  go_wp2
  go_ret2
  exact ⟨rfl, by first | rfl | trivial⟩

theorem next_any (w : World) (s : ByteArray) (p : Nat) (h : p < s.size) (hz : s.size < 140737488355328) :
    Calls Tryd.prog 66 #[.string s, .int .i64 p] w fun e w' => e = .returned (.tuple #[.int .i32 ((nx ((bl s).drop p)).1 : Nat), .int .i64 ((nx ((bl s).drop p)).2 : Nat)]) ∧ w' = w := by
  have hb : (((bl s).drop p).getD 0 0).toNat = (byteAt (bl s) p).toNat := by
    have e := drop_at s p 0
    rw [Nat.add_zero] at e
    rw [← e]
  generalize hb0 : (byteAt (bl s) p).toNat = b0 at hb
  by_cases a1 : b0 < 128
  · have e : nx ((bl s).drop p) = (b0, 1) := by unfold nx nxN; rw [hb, if_pos a1]
    rw [e]; exact next_low w s p h hz b0 hb0 a1
  by_cases a2 : b0 < 194
  · have e : nx ((bl s).drop p) = (0, 0) := by unfold nx nxN; rw [hb, if_neg a1, if_neg (by omega), if_neg (by omega), if_neg (by omega)]
    rw [e]; exact next_none1 w s p h hz b0 hb0 (by omega) a2
  by_cases a3 : b0 ≤ 223
  · exact next_two w s p h hz b0 hb0 (by omega) a3 _ _ rfl
  by_cases a4 : b0 ≤ 239
  · exact next_three w s p h hz b0 hb0 (by omega) a4 _ _ rfl
  by_cases a5 : b0 ≤ 244
  · exact next_four w s p h hz b0 hb0 (by omega) a5 _ _ rfl
  · have e : nx ((bl s).drop p) = (0, 0) := by unfold nx nxN; rw [hb, if_neg a1, if_neg (by omega), if_neg (by omega), if_neg (by omega)]
    rw [e]; exact next_none2 w s p h hz b0 hb0 (by omega)
end Go.Proofs.YtjdcfaaoicnajaaDoor
