/-
  lay: packed bits put into noughts from a bit on.
-/
import Derived.Test.YtbmmfljdkgclnaaText
namespace Go.Proofs.Ytbmmfljdkgclnaa
open Go.RowKit

/-- What lay has done behind j bytes. -/
structure LaidTo (l l' : List UInt8) (t : ByteArray) (at' j : Nat) : Prop where
  len : l'.length = l.length
  bit : ∀ i, i < 8 * l.length → bitAt l' i = (bitAt l i || (decide (at' ≤ i ∧ i - at' < 8 * j) && bitAt (bl t) (i - at')))

theorem LaidTo.zero (l : List UInt8) (t : ByteArray) (at' : Nat) : LaidTo l l t at' 0 := ⟨rfl, fun i _ => by simp⟩

theorem LaidTo.step1 {l l1 : List UInt8} {t : ByteArray} {at' j : Nat} (h : LaidTo l l1 t at' j) (f low : Nat) (hf : at' / 8 = f) (hlow : at' % 8 = low) (hin : f + j < l.length) (i : Nat) (hi : i < 8 * l.length) (hn : i / 8 ≠ f + j + 1) :
    bitAt (l1.set (f + j) (byteAt l1 (f + j) ||| shr (byteAt (bl t) j) low)) i = (bitAt l i || (decide (at' ≤ i ∧ i - at' < 8 * (j + 1)) && bitAt (bl t) (i - at'))) := by
  rw [bitAt_set _ _ _ _ (by rw [h.len]; exact hin)]
  by_cases e : i / 8 = f + j
  · rw [if_pos e, or_bit, byte_bit l1 (f + j) i e, shr_bit _ _ _ (by omega) (by omega), h.bit i hi]
    by_cases hm : low ≤ i % 8
    · have e2 : 7 - (i % 8 - low) = 7 - (i - at') % 8 := by omega
      rw [e2, byte_bit (bl t) j (i - at') (by omega)]
      simp [hm, show at' ≤ i by omega, show ¬ (i - at' < 8 * j) by omega, show i - at' < 8 * (j + 1) by omega]
    · have e3 : (at' ≤ i ∧ i - at' < 8 * j) ↔ (at' ≤ i ∧ i - at' < 8 * (j + 1)) := by omega
      simp [hm, e3]
  · rw [if_neg e, h.bit i hi]
    have e3 : (at' ≤ i ∧ i - at' < 8 * j) ↔ (at' ≤ i ∧ i - at' < 8 * (j + 1)) := by omega
    simp [e3]

theorem LaidTo.last {l l1 : List UInt8} {t : ByteArray} {at' j : Nat} (h : LaidTo l l1 t at' j) (f low : Nat) (hf : at' / 8 = f) (hlow : at' % 8 = low) (hin : f + j < l.length) (hn : ¬ f + j + 1 < l.length) :
    LaidTo l (l1.set (f + j) (byteAt l1 (f + j) ||| shr (byteAt (bl t) j) low)) t at' (j + 1) :=
  ⟨by rw [List.length_set, h.len], fun i hi => h.step1 f low hf hlow hin i hi (by omega)⟩

theorem LaidTo.more {l l1 : List UInt8} {t : ByteArray} {at' j : Nat} (h : LaidTo l l1 t at' j) (f low : Nat) (hf : at' / 8 = f) (hlow : at' % 8 = low) (hn : f + j + 1 < l.length) :
    LaidTo l ((l1.set (f + j) (byteAt l1 (f + j) ||| shr (byteAt (bl t) j) low)).set (f + j + 1) (byteAt (l1.set (f + j) (byteAt l1 (f + j) ||| shr (byteAt (bl t) j) low)) (f + j + 1) ||| shl (byteAt (bl t) j) (8 - low))) t at' (j + 1) := by
  refine ⟨by rw [List.length_set, List.length_set, h.len], fun i hi => ?_⟩
  rw [bitAt_set _ _ _ _ (by rw [List.length_set, h.len]; exact hn)]
  by_cases e : i / 8 = f + j + 1
  · rw [if_pos e, or_bit, byte_bit _ (f + j + 1) i e, bitAt_set _ _ _ _ (by rw [h.len]; omega), if_neg (by omega), shl_bit _ _ _ (by omega), h.bit i hi]
    by_cases hm : i % 8 < low
    · have e2 : 7 - (i % 8 + (8 - low)) = 7 - (i - at') % 8 := by omega
      rw [e2, byte_bit (bl t) j (i - at') (by omega)]
      simp [show i % 8 + (8 - low) < 8 by omega, show at' ≤ i by omega, show ¬ (i - at' < 8 * j) by omega, show i - at' < 8 * (j + 1) by omega]
    · simp [show ¬ (i % 8 + (8 - low) < 8) by omega, show ¬ (i - at' < 8 * j) by omega, show ¬ (i - at' < 8 * (j + 1)) by omega]
  · rw [if_neg e]
    exact h.step1 f low hf hlow (by omega) i hi e

set_option maxHeartbeats 1000000 in
set_option maxRecDepth 100000 in
theorem lay_any (w : World) (g N c at' : Nat) (l : List UInt8) (t : ByteArray) (hg : Blk w g l) (hl : l.length = N) (hN : N ≤ 16777216) (ha : at' ≤ 16777216) (hfit : at' / 8 + t.size ≤ N) :
    Calls Try.prog 78 #[.slice (some ⟨g, 0, none⟩) N c, .int .i64 (at' : Int), .string t] w fun e w' => e = .returned (.tuple #[]) ∧ (∃ l', Blk w' g l' ∧ LaidTo l l' t at' t.size) ∧ Fr [g] w w' := by
  have ha0 : (0 : Int) ≤ (at' : Int) := by omega
  have ha1 : (at' : Int) ≤ 16777216 := by omega
  have hN1 : (N : Int) ≤ 16777216 := by omega
  have ht1 : (t.size : Int) ≤ 16777216 := by omega
  obtain ⟨f, e1⟩ : ∃ f : Nat, (at' : Int) / 8 = (f : Int) := ⟨at' / 8, by omega⟩
  obtain ⟨low, e2⟩ : ∃ low : Nat, (at' : Int) % 8 = (low : Int) := ⟨at' % 8, by omega⟩
  have hlow : low < 8 := by omega
  have hlow0 : (0 : Int) ≤ (low : Int) := by omega
  have hlow1 : (low : Int) < 8 := by omega
  go_enter Try.func78, Try.ntmps78
  go_wp2_with go_in
  go_loopw [16] (fun i wr => ∃ j : Nat, j ≤ t.size ∧ i = .int .i64 j ∧ (∃ l', Blk wr g l' ∧ LaidTo l l' t at' j) ∧ Fr [g] w wr) (fun i _ => t.size - (intOf i).toNat)
  case atStart => exact ⟨0, by omega, rfl, ⟨l, hg, LaidTo.zero l t at'⟩, Fr.refl _ _⟩
  case round =>
    obtain ⟨j, hj, rfl, ⟨l1, b1, k1⟩, fr⟩ := hrel
    by_cases hlt : j < t.size
    · have hlt' : (j : Int) < (t.size : Int) := by omega
      have hj0 : (0 : Int) ≤ (j : Int) := by omega
      have hix := run_idx t (j : Int) j rfl hlt
      have hin : (f : Int) + (j : Int) < (N : Int) := by omega
      have hin0 : (0 : Int) ≤ (f : Int) + (j : Int) := by omega
      have hin1 : f + j < l1.length := by rw [k1.len]; omega
      have q1 := b1.cell (f + j) hin1
      have z1 := b1.frozen (f + j)
      have b2 := (b1.set (f + j) (byteAt l1 (f + j) ||| shr (byteAt (bl t) j) low)).drew
      have fr2 := (fr.setCell ⟨g, f + j, none⟩ (.int .u8 (byteAt l1 (f + j) ||| shr (byteAt (bl t) j) low).toNat) (by simp)).drew
      rw [← or_int, shr_int] at b2 fr2
      go_wp2
      go_region
      generalize World.drew (wr.setCell ⟨g, f + j, none⟩ _) = w2 at b2 fr2 ⊢
      have hf2 : at' / 8 = f := by omega
      have hl2 : at' % 8 = low := by omega
      by_cases hnx : f + j + 1 < N
      · have hnx' : (f : Int) + (j : Int) + 1 < (N : Int) := by omega
        have kk := k1.more f low hf2 hl2 (by rw [hl]; exact hnx)
        have hin2 : f + j + 1 < (l1.set (f + j) (byteAt l1 (f + j) ||| shr (byteAt (bl t) j) low)).length := by rw [List.length_set, k1.len, hl]; exact hnx
        generalize l1.set (f + j) (byteAt l1 (f + j) ||| shr (byteAt (bl t) j) low) = l2 at b2 kk hin2
        have q2 := b2.cell (f + j + 1) hin2
        have z2 := b2.frozen (f + j + 1)
        have b3 := (b2.set (f + j + 1) (byteAt l2 (f + j + 1) ||| shl (byteAt (bl t) j) (8 - low))).drew
        have fr3 := (fr2.setCell ⟨g, f + j + 1, none⟩ (.int .u8 (byteAt l2 (f + j + 1) ||| shl (byteAt (bl t) j) (8 - low)).toNat) (by simp)).drew
        rw [← or_int, shl_int] at b3 fr3
        clear hf2 hl2
        go_wp2
        go_region
        generalize World.drew (w2.setCell ⟨g, f + j + 1, none⟩ _) = w3 at b3 fr3 ⊢
        go_wp2
        exact ⟨⟨j + 1, by omega, by go_num, ⟨_, b3, kk⟩, fr3⟩, by simp [intOf]; omega⟩
      · have kk := k1.last f low hf2 hl2 (by rw [hl]; omega) (by rw [hl]; exact hnx)
        have hnx' : (N : Int) ≤ (f : Int) + (j : Int) + 1 := by omega
        clear hf2 hl2
        go_wp2
        exact ⟨⟨j + 1, by omega, by go_num, ⟨_, b2, kk⟩, fr2⟩, by simp [intOf]; omega⟩
    · obtain rfl : j = t.size := by omega
      go_wp2
      go_end0
      exact ⟨rfl, ⟨l1, b1, k1⟩, fr⟩


theorem wrapI {v : Int} (h0 : -9223372036854775808 ≤ v) (h1 : v ≤ 9223372036854775807) : IntKind.i64.wrap v = v := by
  simp [IntKind.wrap, IntKind.bits, IntKind.signed]
  omega


end Go.Proofs.Ytbmmfljdkgclnaa
