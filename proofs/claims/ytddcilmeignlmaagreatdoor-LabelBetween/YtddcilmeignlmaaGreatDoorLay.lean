/-
  lay: packed bits put into noughts from a bit on.
-/
import Derived.Test.YtddcilmeignlmaaGreatDoorText
namespace Go.Proofs.YtddcilmeignlmaaGreatDoor
open Go.RowKit

/-- What lay has done behind j bytes. -/
structure LaidTo (l l' : List UInt8) (t : ByteArray) (at' j : Nat) : Prop where
  len : l'.length = l.length
  bit : ∀ i, i < 8 * l.length → bitAt l' i = (bitAt l i || (decide (at' ≤ i ∧ i - at' < 8 * j) && bitAt (bl t) (i - at')))

theorem LaidTo.zero (l : List UInt8) (t : ByteArray) (at' : Nat) : LaidTo l l t at' 0 := ⟨rfl, fun i _ => by simp⟩

theorem LaidTo.step1 {l l1 : List UInt8} {t : ByteArray} {at' j : Nat} (h : LaidTo l l1 t at' j) (f low : Nat) (hf : at' / 8 = f) (hlow : at' % 8 = low) (hin : f + j < l.length) (i : Nat) (hi : i < 8 * l.length) (hn : i / 8 ≠ f + j + 1) :
    bitAt (l1.set (f + j) (byteAt l1 (f + j) ||| shr (byteAt (bl t) j) low)) i = (bitAt l i || (decide (at' ≤ i ∧ i - at' < 8 * (j + 1)) && bitAt (bl t) (i - at'))) := by
  rw [bitAt_set _ _ _ _ (by rw [h.len]; exact hin)]
  by_cases e : i / 8 = f + j
  · rw [if_pos e, or_bit, byte_bit l1 (f + j) i e, shr_bit _ _ _ (by omega) (by omega), h.bit i hi]
    by_cases hm : low ≤ i % 8
    · have e2 : 7 - (i % 8 - low) = 7 - (i - at') % 8 := by omega
      rw [e2, byte_bit (bl t) j (i - at') (by omega)]
      simp [hm, show at' ≤ i by omega, show ¬ (i - at' < 8 * j) by omega, show i - at' < 8 * (j + 1) by omega]
    · have e3 : (at' ≤ i ∧ i - at' < 8 * j) ↔ (at' ≤ i ∧ i - at' < 8 * (j + 1)) := by omega
      simp [hm, e3]
  · rw [if_neg e, h.bit i hi]
    have e3 : (at' ≤ i ∧ i - at' < 8 * j) ↔ (at' ≤ i ∧ i - at' < 8 * (j + 1)) := by omega
    simp [e3]

theorem LaidTo.last {l l1 : List UInt8} {t : ByteArray} {at' j : Nat} (h : LaidTo l l1 t at' j) (f low : Nat) (hf : at' / 8 = f) (hlow : at' % 8 = low) (hin : f + j < l.length) (hn : ¬ f + j + 1 < l.length) :
    LaidTo l (l1.set (f + j) (byteAt l1 (f + j) ||| shr (byteAt (bl t) j) low)) t at' (j + 1) :=
  ⟨by rw [List.length_set, h.len], fun i hi => h.step1 f low hf hlow hin i hi (by omega)⟩

theorem LaidTo.more {l l1 : List UInt8} {t : ByteArray} {at' j : Nat} (h : LaidTo l l1 t at' j) (f low : Nat) (hf : at' / 8 = f) (hlow : at' % 8 = low) (hn : f + j + 1 < l.length) :
    LaidTo l ((l1.set (f + j) (byteAt l1 (f + j) ||| shr (byteAt (bl t) j) low)).set (f + j + 1) (byteAt (l1.set (f + j) (byteAt l1 (f + j) ||| shr (byteAt (bl t) j) low)) (f + j + 1) ||| shl (byteAt (bl t) j) (8 - low))) t at' (j + 1) := by
  refine ⟨by rw [List.length_set, List.length_set, h.len], fun i hi => ?_⟩
  rw [bitAt_set _ _ _ _ (by rw [List.length_set, h.len]; exact hn)]
  by_cases e : i / 8 = f + j + 1
  · rw [if_pos e, or_bit, byte_bit _ (f + j + 1) i e, bitAt_set _ _ _ _ (by rw [h.len]; omega), if_neg (by omega), shl_bit _ _ _ (by omega), h.bit i hi]
    by_cases hm : i % 8 < low
    · have e2 : 7 - (i % 8 + (8 - low)) = 7 - (i - at') % 8 := by omega
      rw [e2, byte_bit (bl t) j (i - at') (by omega)]
      simp [show i % 8 + (8 - low) < 8 by omega, show at' ≤ i by omega, show ¬ (i - at' < 8 * j) by omega, show i - at' < 8 * (j + 1) by omega]
    · simp [show ¬ (i % 8 + (8 - low) < 8) by omega, show ¬ (i - at' < 8 * j) by omega, show ¬ (i - at' < 8 * (j + 1)) by omega]
  · rw [if_neg e]
    exact h.step1 f low hf hlow (by omega) i hi e

set_option maxHeartbeats 1000000 in
set_option maxRecDepth 100000 in
theorem lay_any (w : World) (g N c at' : Nat) (l : List UInt8) (t : ByteArray) (hg : Blk w g l) (hl : l.length = N) (hN : N ≤ 16777216) (ha : at' ≤ 16777216) (hfit : at' / 8 + t.size ≤ N) :
    Calls Tryz.prog 62 #[.slice (some ⟨g, 0, none⟩) N c, .int .i64 (at' : Int), .string t] w fun e w' => e = .returned (.tuple #[]) ∧ (∃ l', Blk w' g l' ∧ LaidTo l l' t at' t.size) ∧ Fr [g] w w' := by
  have ha0 : (0 : Int) ≤ (at' : Int) := by omega
  have ha1 : (at' : Int) ≤ 16777216 := by omega
  have hN1 : (N : Int) ≤ 16777216 := by omega
  have ht1 : (t.size : Int) ≤ 16777216 := by omega
  obtain ⟨f, e1⟩ : ∃ f : Nat, (at' : Int) / 8 = (f : Int) := ⟨at' / 8, by omega⟩
  obtain ⟨low, e2⟩ : ∃ low : Nat, (at' : Int) % 8 = (low : Int) := ⟨at' % 8, by omega⟩
  have hlow : low < 8 := by omega
  have hlow0 : (0 : Int) ≤ (low : Int) := by omega
  have hlow1 : (low : Int) < 8 := by omega
  go_enter Tryz.func62, Tryz.ntmps62
  go_wp2_with go_in
  go_loopw [16] (fun i wr => ∃ j : Nat, j ≤ t.size ∧ i = .int .i64 j ∧ (∃ l', Blk wr g l' ∧ LaidTo l l' t at' j) ∧ Fr [g] w wr) (fun i _ => t.size - (intOf i).toNat)
  case atStart => exact ⟨0, by omega, rfl, ⟨l, hg, LaidTo.zero l t at'⟩, Fr.refl _ _⟩
  case round =>
    obtain ⟨j, hj, rfl, ⟨l1, b1, k1⟩, fr⟩ := hrel
    by_cases hlt : j < t.size
    · have hlt' : (j : Int) < (t.size : Int) := by omega
      have hj0 : (0 : Int) ≤ (j : Int) := by omega
      have hix := run_idx t (j : Int) j rfl hlt
      have hin : (f : Int) + (j : Int) < (N : Int) := by omega
      have hin0 : (0 : Int) ≤ (f : Int) + (j : Int) := by omega
      have hin1 : f + j < l1.length := by rw [k1.len]; omega
      have q1 := b1.cell (f + j) hin1
      have z1 := b1.frozen (f + j)
      have b2 := (b1.set (f + j) (byteAt l1 (f + j) ||| shr (byteAt (bl t) j) low)).drew
      have fr2 := (fr.setCell ⟨g, f + j, none⟩ (.int .u8 (byteAt l1 (f + j) ||| shr (byteAt (bl t) j) low).toNat) (by simp)).drew
      rw [← or_int, shr_int] at b2 fr2
      go_wp2
      go_region
      generalize World.drew (wr.setCell ⟨g, f + j, none⟩ _) = w2 at b2 fr2 ⊢
      have hf2 : at' / 8 = f := by omega
      have hl2 : at' % 8 = low := by omega
      by_cases hnx : f + j + 1 < N
      · have hnx' : (f : Int) + (j : Int) + 1 < (N : Int) := by omega
        have kk := k1.more f low hf2 hl2 (by rw [hl]; exact hnx)
        have hin2 : f + j + 1 < (l1.set (f + j) (byteAt l1 (f + j) ||| shr (byteAt (bl t) j) low)).length := by rw [List.length_set, k1.len, hl]; exact hnx
        generalize l1.set (f + j) (byteAt l1 (f + j) ||| shr (byteAt (bl t) j) low) = l2 at b2 kk hin2
        have q2 := b2.cell (f + j + 1) hin2
        have z2 := b2.frozen (f + j + 1)
        have b3 := (b2.set (f + j + 1) (byteAt l2 (f + j + 1) ||| shl (byteAt (bl t) j) (8 - low))).drew
        have fr3 := (fr2.setCell ⟨g, f + j + 1, none⟩ (.int .u8 (byteAt l2 (f + j + 1) ||| shl (byteAt (bl t) j) (8 - low)).toNat) (by simp)).drew
        rw [← or_int, shl_int] at b3 fr3
        clear hf2 hl2
        go_wp2
        go_region
        generalize World.drew (w2.setCell ⟨g, f + j + 1, none⟩ _) = w3 at b3 fr3 ⊢
        go_wp2
        exact ⟨⟨j + 1, by omega, by go_num, ⟨_, b3, kk⟩, fr3⟩, by simp [intOf]; omega⟩
      · have kk := k1.last f low hf2 hl2 (by rw [hl]; omega) (by rw [hl]; exact hnx)
        have hnx' : (N : Int) ≤ (f : Int) + (j : Int) + 1 := by omega
        clear hf2 hl2
        go_wp2
        exact ⟨⟨j + 1, by omega, by go_num, ⟨_, b2, kk⟩, fr2⟩, by simp [intOf]; omega⟩
    · obtain rfl : j = t.size := by omega
      go_wp2
      go_end0
      exact ⟨rfl, ⟨l1, b1, k1⟩, fr⟩


/-! ### lift: bytes filled with packed bits from a bit of the first byte on -/
structure LiftTo (l l' : List UInt8) (t : ByteArray) (low j : Nat) : Prop where
  len : l'.length = l.length
  bit : ∀ i, i < 8 * j → bitAt l' i = bitAt (bl t) (i + low)

theorem LiftTo.zero (l : List UInt8) (t : ByteArray) (low : Nat) : LiftTo l l t low 0 := ⟨rfl, fun i hi => by omega⟩

theorem LiftTo.step1 {l l1 : List UInt8} {t : ByteArray} {low j : Nat} (h : LiftTo l l1 t low j) (hin : j < l.length) (b : UInt8) (hb : ∀ m, m < 8 → b.toNat.testBit (7 - m) = bitAt (bl t) (8 * j + m + low)) :
    LiftTo l (l1.set j b) t low (j + 1) := by
  refine ⟨by rw [List.length_set, h.len], fun i hi => ?_⟩
  rw [bitAt_set _ _ _ _ (by rw [h.len]; exact hin)]
  by_cases e : i / 8 = j
  · rw [if_pos e, hb _ (by omega)]
    congr 1
    omega
  · rw [if_neg e, h.bit i (by omega)]

theorem LiftTo.last {l l1 : List UInt8} {t : ByteArray} {low j : Nat} (h : LiftTo l l1 t low j) (hlow : low < 8) (hin : j < l.length) (hn : ¬ j + 1 < t.size) : LiftTo l (l1.set j (shl (byteAt (bl t) j) low)) t low (j + 1) := by
  refine h.step1 hin _ (fun m hm => ?_)
  rw [shl_bit _ _ _ hm]
  by_cases hk : m + low < 8
  · rw [show 7 - (m + low) = 7 - (8 * j + m + low) % 8 by omega, byte_bit (bl t) j (8 * j + m + low) (by omega)]
    simp [hk]
  · rw [bitAt_ge (by rw [bl_length]; omega)]
    simp [hk]

theorem LiftTo.more {l l1 : List UInt8} {t : ByteArray} {low j : Nat} (h : LiftTo l l1 t low j) (hlow : low < 8) (hin : j < l.length) : LiftTo l ((l1.set j (shl (byteAt (bl t) j) low)).set j (shl (byteAt (bl t) j) low ||| shr (byteAt (bl t) (j + 1)) (8 - low))) t low (j + 1) := by
  rw [List.set_set]
  refine h.step1 hin _ (fun m hm => ?_)
  rw [or_bit, shl_bit _ _ _ hm, shr_bit _ _ _ hm (by omega)]
  by_cases hk : m + low < 8
  · rw [show 7 - (m + low) = 7 - (8 * j + m + low) % 8 by omega, byte_bit (bl t) j (8 * j + m + low) (by omega)]
    simp [hk, show ¬ 8 - low ≤ m by omega]
  · rw [show 7 - (m - (8 - low)) = 7 - (8 * j + m + low) % 8 by omega, byte_bit (bl t) (j + 1) (8 * j + m + low) (by omega)]
    simp [hk, show 8 - low ≤ m by omega]

set_option maxHeartbeats 1000000 in
set_option maxRecDepth 100000 in
theorem lift_any (w : World) (g N c low : Nat) (l : List UInt8) (t : ByteArray) (hg : Blk w g l) (hl : l.length = N) (hN : N ≤ 16777216) (hlow : low < 8) (ht : N ≤ t.size) (ht2 : t.size ≤ 16777216) :
    Calls Tryz.prog 59 #[.slice (some ⟨g, 0, none⟩) N c, .string t, .int .i64 (low : Int)] w fun e w' => e = .returned (.tuple #[]) ∧ (∃ l', Blk w' g l' ∧ LiftTo l l' t low N) ∧ Fr [g] w w' := by
  have hlow0 : (0 : Int) ≤ (low : Int) := by omega
  have hlow1 : (low : Int) < 8 := by omega
  have hN1 : (N : Int) ≤ 16777216 := by omega
  have ht1 : (t.size : Int) ≤ 16777216 := by omega
  go_enter Tryz.func59, Tryz.ntmps59
  go_wp2_with go_in
  go_loopw [9] (fun i wr => ∃ j : Nat, j ≤ N ∧ i = .int .i64 j ∧ (∃ l', Blk wr g l' ∧ LiftTo l l' t low j) ∧ Fr [g] w wr) (fun i _ => N - (intOf i).toNat)
  case atStart => exact ⟨0, by omega, rfl, ⟨l, hg, LiftTo.zero l t low⟩, Fr.refl _ _⟩
  case round =>
    obtain ⟨j, hj, rfl, ⟨l1, b1, k1⟩, fr⟩ := hrel
    by_cases hlt : j < N
    · have hlt' : (j : Int) < (N : Int) := by omega
      have hj0 : (0 : Int) ≤ (j : Int) := by omega
      have hix := run_idx t (j : Int) j rfl (by omega)
      have hin1 : j < l1.length := by rw [k1.len]; omega
      have q1 := b1.cell j hin1
      have z1 := b1.frozen j
      have b2 := b1.set j (shl (byteAt (bl t) j) low)
      have fr2 := fr.setCell ⟨g, j, none⟩ (.int .u8 (shl (byteAt (bl t) j) low).toNat) (by simp)
      rw [shl_int] at b2 fr2
      by_cases hnx : j + 1 < t.size
      · have hnx' : (j : Int) + 1 < (t.size : Int) := by omega
        have kk := k1.more hlow (by omega)
        have hin2 : j < (l1.set j (shl (byteAt (bl t) j) low)).length := by rw [List.length_set]; exact hin1
        have hix2 := run_idx t ((j : Int) + 1) (j + 1) (by omega) hnx
        go_wp2
        generalize wr.setCell ⟨g, j, none⟩ _ = w2 at b2 fr2 ⊢
        have q2 := b2.cell j hin2
        have z2 := b2.frozen j
        rw [byteAt_set _ _ _ _ hin1, if_pos rfl] at q2
        have b3 := (b2.set j (shl (byteAt (bl t) j) low ||| shr (byteAt (bl t) (j + 1)) (8 - low))).drew
        have fr3 := (fr2.setCell ⟨g, j, none⟩ (.int .u8 (shl (byteAt (bl t) j) low ||| shr (byteAt (bl t) (j + 1)) (8 - low)).toNat) (by simp)).drew
        rw [← or_int, shr_int] at b3 fr3
        go_region
        generalize World.drew (w2.setCell ⟨g, j, none⟩ _) = w3 at b3 fr3 ⊢
        go_wp2
        exact ⟨⟨j + 1, by omega, by go_num, ⟨_, b3, kk⟩, fr3⟩, by simp [intOf]; omega⟩
      · have kk := k1.last hlow (by omega) hnx
        have hnx' : (t.size : Int) ≤ (j : Int) + 1 := by omega
        go_wp2
        exact ⟨⟨j + 1, by omega, by go_num, ⟨_, b2, kk⟩, fr2⟩, by simp [intOf]; omega⟩
    · obtain rfl : j = N := by omega
      go_wp2
      go_end0
      exact ⟨rfl, ⟨l1, b1, k1⟩, fr⟩

/-! ### clearBehind -/
theorem wrapI {v : Int} (h0 : -9223372036854775808 ≤ v) (h1 : v ≤ 9223372036854775807) : IntKind.i64.wrap v = v := by
  simp [IntKind.wrap, IntKind.bits, IntKind.signed]
  omega

/-- The fill made noughts. -/
def cleared (l : List UInt8) (n : Nat) : List UInt8 := if n % 8 = 0 then l else l.set (l.length - 1) (andNot (byteAt l (l.length - 1)) (fillB n))
theorem cleared_length (l : List UInt8) (n : Nat) : (cleared l n).length = l.length := by unfold cleared; split <;> simp
theorem cleared_bit (l : List UInt8) (n : Nat) (hl : l.length = (n + 7) / 8) (i : Nat) (hi : i < 8 * l.length) : bitAt (cleared l n) i = (bitAt l i && decide (i < n)) := by
  unfold cleared
  split
  · rename_i h
    simp [show i < n by omega]
  · rename_i h
    rw [bitAt_set _ _ _ _ (by omega)]
    by_cases e : i / 8 = l.length - 1
    · rw [if_pos e, andNot_bit _ _ _ (by omega), fill_bit _ _ (by omega), byte_bit _ _ i e]
      have e2 : decide (i < n) = !decide (n % 8 ≤ i % 8) := by rw [← decide_not]; congr 1; apply propext; omega
      rw [e2]
    · rw [if_neg e]
      simp [show i < n by omega]

set_option maxHeartbeats 1000000 in
set_option maxRecDepth 100000 in
theorem clear_any (w : World) (g N c n : Nat) (l : List UInt8) (hg : Blk w g l) (hl : l.length = N) (hn : N = (n + 7) / 8) (hN : n ≤ 1048576) :
    Calls Tryz.prog 60 #[.slice (some ⟨g, 0, none⟩) N c, .int .i64 (n : Int)] w fun e w' => e = .returned (.tuple #[]) ∧ Blk w' g (cleared l n) ∧ Fr [g] w w' := by
  have hn0 : (0 : Int) ≤ (n : Int) := by omega
  have hn1 : (n : Int) ≤ 1048576 := by omega
  by_cases h8 : n % 8 = 0
  · have e1 : ((n : Int) % 8 == 0) = true := by simp; omega
    have e2 : cleared l n = l := by unfold cleared; rw [if_pos h8]
    rw [e2]
    have e3 : ((n : Int) % 8 != 0) = false := by simp; omega
    go_enter Tryz.func60, Tryz.ntmps60
    go_wp2
    go_end0
    exact ⟨rfl, hg, Fr.refl _ _⟩
  · have e3 : ((n : Int) % 8 != 0) = true := by simp; omega
    have e2 : cleared l n = l.set (N - 1) (andNot (byteAt l (N - 1)) (fillB n)) := by unfold cleared; rw [if_neg h8, hl]
    rw [e2]
    obtain ⟨M, hM⟩ : ∃ M, N = M + 1 := ⟨N - 1, by omega⟩
    rw [show N - 1 = M by omega]
    have hin : M < l.length := by omega
    have hm0 : (0 : Int) ≤ (M : Int) := by omega
    have hm1 : (M : Int) < 1048576 := by omega
    have q1 := hg.cell M hin
    have z1 := hg.frozen M
    have b2 := (hg.set M (andNot (byteAt l M) (fillB n))).drew
    have fr2 := ((Fr.refl [g] w).setCell ⟨g, M, none⟩ (.int .u8 (andNot (byteAt l M) (fillB n)).toNat) (by simp)).drew
    rw [← andNot_int] at b2 fr2
    have hm2 : (M : Int) < (M : Int) + 1 := by omega
    have hwM : IntKind.i64.wrap (M : Int) = (M : Int) := wrapI (by omega) (by omega)
    clear e2 hl hn h8
    subst hM
    go_enter Tryz.func60, Tryz.ntmps60
    go_wp2
    clear e3
    go_region_with (go_at_call 90; refine (fillOf_any _ n (by omega)).mono ?_; rintro e w5 ⟨rfl, rfl⟩)
    all_goals (go_end0; exact ⟨rfl, b2, fr2⟩)

end Go.Proofs.YtddcilmeignlmaaGreatDoor
