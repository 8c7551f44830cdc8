/-
  Unpack: the row that bytes say.
-/
import Derived.Test.YtddcilmeignlmaaGreatDoorOf
namespace Go.Proofs.YtddcilmeignlmaaGreatDoor
open Go.RowKit

/-- The first n bits of bytes. -/
def bitsTo (l : List UInt8) (n : Nat) : List Bool := (List.range n).map (bitAt l)
theorem bitsTo_length (l : List UInt8) (n : Nat) : (bitsTo l n).length = n := by simp [bitsTo]
theorem bitsTo_getD (l : List UInt8) (n i : Nat) (hi : i < n) : (bitsTo l n).getD i false = bitAt l i := by simp [bitsTo, hi]

/-- Bytes say a row of n bits, and no more. -/
def UnOk (l : List UInt8) (n : Int) : Prop := 0 ≤ n ∧ n ≤ 1048576 ∧ l.length = (n.toNat + 7) / 8 ∧ ∀ i, n.toNat ≤ i → bitAt l i = false

theorem UnOk.rep {l : List UInt8} {n : Nat} (h : UnOk l n) : Rep (mkS l) n (bitsTo l n) := by
  obtain ⟨_, h1, h2, h3⟩ := h
  refine ⟨bitsTo_length l n, by omega, by rw [mkS_size]; exact h2, fun i => ?_⟩
  rw [bl_mkS]
  by_cases hi : i < n
  · rw [bitsTo_getD l n i hi]
  · rw [h3 i (by simpa using hi)]
    simp only [List.getD_eq_getElem?_getD]
    rw [List.getElem?_eq_none (by rw [bitsTo_length]; omega)]
    rfl

theorem unOk_full {l : List UInt8} {n : Nat} (hn : n ≤ 1048576) (hl : l.length = (n + 7) / 8) (h8 : n % 8 = 0) : UnOk l n :=
  ⟨by omega, by omega, hl, fun i hi => bitAt_ge (by simp at hi; omega)⟩
theorem unOk_iff {l : List UInt8} {n M : Nat} (hn : n ≤ 1048576) (hl : l.length = (n + 7) / 8) (h8 : ¬ n % 8 = 0) (hM : l.length = M + 1) :
    ((byteAt l M).toNat &&& (fillB n).toNat = 0) ↔ UnOk l n := by
  constructor
  · intro h
    refine ⟨by omega, by omega, hl, fun i hi => ?_⟩
    simp at hi
    by_cases hb : i < 8 * l.length
    · have e : i / 8 = M := by omega
      have := congrArg (fun x => x.testBit (7 - i % 8)) h
      simp only [Nat.testBit_and, Nat.zero_testBit] at this
      rw [byte_bit l M i e, fill_bit _ _ (by omega)] at this
      simpa [show n % 8 ≤ i % 8 by omega] using this
    · exact bitAt_ge (by omega)
  · rintro ⟨_, _, _, h⟩
    apply Nat.eq_of_testBit_eq
    intro j
    rw [Nat.testBit_and, Nat.zero_testBit]
    by_cases hj : j < 8
    · have e1 := fill_bit n (7 - j) (by omega)
      rw [show 7 - (7 - j) = j by omega] at e1
      rw [e1]
      by_cases hf : n % 8 ≤ 7 - j
      · have e2 := h (8 * M + (7 - j)) (by simp; omega)
        rw [bitAt_at _ _ _ (by omega), show 7 - (7 - j) = j by omega] at e2
        simp [e2]
      · simp [hf]
    · have hy : (fillB n).toNat < 2 ^ j := Nat.lt_of_lt_of_le (fillB n).toNat_lt (Nat.pow_le_pow_right (by omega) (by omega))
      rw [Nat.testBit_lt_two_pow hy]
      simp

/-- A slice may be read: it is nil, or lies somewhere plainly. -/
def Plain (ad : Option Addr) : Prop := ad = none ∨ ∃ b off, ad = some ⟨b, off, none⟩

set_option maxHeartbeats 1000000 in
theorem unpack_neg (w : World) (ad : Option Addr) (m c : Nat) (n : Int) (h : n < 0) :
    Calls Tryz.prog 53 #[.slice ad m c, .int .i64 n] w fun e w' => e = .returned (.tuple #[bv (mkS []) 0, .bool false]) ∧ Fr [] w w' := by
  go_enter Tryz.func53, Tryz.ntmps53
  go_wp2
  exact bodyPost_ret (resB2 Tryz.results53 _ _ w.heap.size (mkS []) 0 rfl (Box.zero w)) rfl ⟨rfl, (Fr.refl _ _).alloc _⟩

set_option maxHeartbeats 1000000 in
theorem unpack_big (w : World) (ad : Option Addr) (m c : Nat) (n : Int) (h0 : 0 ≤ n) (h : 1048576 < n) :
    Calls Tryz.prog 53 #[.slice ad m c, .int .i64 n] w fun e w' => e = .returned (.tuple #[bv (mkS []) 0, .bool false]) ∧ Fr [] w w' := by
  have d1 : decide (n < 0) = false := by simp; omega
  go_enter Tryz.func53, Tryz.ntmps53
  go_wp2
  exact bodyPost_ret (resB2 Tryz.results53 _ _ w.heap.size (mkS []) 0 rfl (Box.zero w)) rfl ⟨rfl, (Fr.refl _ _).alloc _⟩

set_option maxHeartbeats 1000000 in
theorem unpack_len (w : World) (ad : Option Addr) (m c n : Nat) (h : n ≤ 1048576) (hm : m ≠ (n + 7) / 8) :
    Calls Tryz.prog 53 #[.slice ad m c, .int .i64 (n : Int)] w fun e w' => e = .returned (.tuple #[bv (mkS []) 0, .bool false]) ∧ Fr [] w w' := by
  obtain ⟨K, hK⟩ : ∃ K, (n + 7) / 8 = K := ⟨_, rfl⟩
  have HK : Hid ((n + 7) / 8 = K) := hK
  rw [hK] at hm
  clear hK
  have d1 : decide ((n : Int) < 0) = false := by simp
  have d2 : decide ((1048576 : Int) < (n : Int)) = false := by simp; omega
  have d2' : decide (1048576 < n) = false := by simp; omega
  have d3 : ((m : Int) == (K : Int)) = false := by simp; omega
  have d3' : ((m : Int) != (K : Int)) = true := by simp; omega
  have hn1 : (n : Int) ≤ 1048576 := by omega
  go_enter Tryz.func53, Tryz.ntmps53
  go_wp2_with (go_at_call 58; refine (bytesFor_k _ n K (by omega) HK.out).mono ?_; rintro e w5 ⟨rfl, rfl⟩)
  exact bodyPost_ret (resB2 Tryz.results53 _ _ w.heap.size (mkS []) 0 rfl (Box.zero w)) rfl ⟨rfl, (Fr.refl _ _).alloc _⟩

set_option maxHeartbeats 1000000 in
set_option maxRecDepth 100000 in
theorem unpack_full (w : World) (ad : Option Addr) (K c n : Nat) (l : List UInt8) (h : n ≤ 1048576) (hK : (n + 7) / 8 = K) (h8 : n % 8 = 0) (hl : l.length = K) (hb : BytesAt w ad l) (hp : Plain ad) :
    Calls Tryz.prog 53 #[.slice ad K c, .int .i64 (n : Int)] w fun e w' => e = .returned (.tuple #[bv (mkS l) n, .bool true]) ∧ Fr [] w w' := by
  have HK : Hid ((n + 7) / 8 = K) := hK
  have HL : Hid (l.length = K) := hl
  have d1 : decide ((n : Int) < 0) = false := by simp
  have d2 : decide ((1048576 : Int) < (n : Int)) = false := by simp; omega
  have d2' : decide (1048576 < n) = false := by simp; omega
  have d4 : ((n : Int) % 8 != 0) = false := by simp; omega
  have hn1 : (n : Int) ≤ 1048576 := by omega
  have hn0 : (0 : Int) ≤ (n : Int) := by omega
  have bC0 := Box.zero w
  have f0 := (Fr.refl [] w).alloc (.cells #[.string { data := #[] }, .int .i64 0] 43)
  clear hK hl h8
  go_enter Tryz.func53, Tryz.ntmps53
  go_wp2_with (go_at_call 58; refine (bytesFor_k _ n K (by omega) HK.out).mono ?_; rintro e w5 ⟨rfl, rfl⟩)
  go_quiet (fail)
  have bC1 : Box ((w.alloc (.cells #[.string { data := #[] }, .int .i64 0] 43)).drewN nq) w.heap.size (mkS []) 0 := bC0.kept ((Fr.refl [] _).drewN _) (by simp)
  have f1 := f0.drewN nq
  have hb1 := hb.kept f1 (by simp)
  generalize (w.alloc (.cells #[.string { data := #[] }, .int .i64 0] 43)).drewN nq = w1 at bC1 f1 hb1
  go_wp2_with (first
    | (refine wp_conv rfl _ rfl l _ K _ rfl HL.out hb1 (fun _ => hp) ?_)
    | (refine wp_storeB rfl _ _ rfl _ _ (mkS l) _ n rfl rfl bC1 ?_; intro w6 b6 f6))
  exact bodyPost_ret (resB2 Tryz.results53 _ _ _ (mkS l) n rfl b6) rfl ⟨rfl, f1.then f6 (fun i hi hm => by simp at hm; omega)⟩

set_option maxHeartbeats 1000000 in
set_option maxRecDepth 100000 in
theorem unpack_part (w : World) (b off K M c n : Nat) (l : List UInt8) (h : n ≤ 1048576) (hK : (n + 7) / 8 = K) (h8 : ¬ n % 8 = 0) (hl : l.length = K) (hM : K = M + 1) (hb : BytesAt w (some ⟨b, off, none⟩) l) :
    Calls Tryz.prog 53 #[.slice (some ⟨b, off, none⟩) K c, .int .i64 (n : Int)] w fun e w' => ((e = .returned (.tuple #[bv (mkS l) n, .bool true]) ∧ UnOk l n) ∨ (e = .returned (.tuple #[bv (mkS []) 0, .bool false]) ∧ ¬ UnOk l n)) ∧ Fr [] w w' := by
  have HK : Hid ((n + 7) / 8 = K) := hK
  have HL : Hid (l.length = K) := hl
  have hiff := unOk_iff h (by rw [hl, hK]) h8 (by rw [hl, hM])
  have d1 : decide ((n : Int) < 0) = false := by simp
  have d2 : decide ((1048576 : Int) < (n : Int)) = false := by simp; omega
  have d2' : decide (1048576 < n) = false := by simp; omega
  have d4 : ((n : Int) % 8 != 0) = true := by simp; omega
  have hn1 : (n : Int) ≤ 1048576 := by omega
  have hn0 : (0 : Int) ≤ (n : Int) := by omega
  have hM1 : (M : Int) ≤ 1048576 := by omega
  have hM0 : (0 : Int) ≤ (M : Int) := by omega
  have hM2 : (M : Int) < (M : Int) + 1 := by omega
  have hwM : IntKind.i64.wrap (M : Int) = (M : Int) := wrapI (by omega) (by omega)
  have bC0 := Box.zero w
  have f0 := (Fr.refl [] w).alloc (.cells #[.string { data := #[] }, .int .i64 0] 43)
  have hb0 := hb.kept f0 (by simp)
  obtain ⟨b', off', e, q⟩ := hb0.at M (by omega)
  cases e
  have hq1 : UnOk l n → (bits .and .u8 ((byteAt l M).toNat : Int) ((fillB n).toNat : Int) != 0) = false := fun hu => by
    rw [and_int, hiff.2 hu]
    rfl
  have hq2 : ¬ UnOk l n → (bits .and .u8 ((byteAt l M).toNat : Int) ((fillB n).toNat : Int) != 0) = true := fun hu => by
    rw [and_int]
    have : (byteAt l M).toNat &&& (fillB n).toNat ≠ 0 := fun e => hu (hiff.1 e)
    generalize (byteAt l M).toNat &&& (fillB n).toNat = k at this
    cases k with
    | zero => exact absurd rfl this
    | succ k => rfl
  clear hK hl h8 hiff
  subst hM
  by_cases hu : UnOk l n
  · have hq := hq1 hu
    clear hq1 hq2
    go_enter Tryz.func53, Tryz.ntmps53
    go_wp2_with (go_at_call 58; refine (bytesFor_k _ n (M + 1) (by omega) HK.out).mono ?_; rintro e w5 ⟨rfl, rfl⟩)
    go_quiet ((go_at_call 90; exact Calls.quiet_of_same (fillOf_eq _ n (by omega))))
    have bC1 : Box ((w.alloc (.cells #[.string { data := #[] }, .int .i64 0] 43)).drewN nq) w.heap.size (mkS []) 0 := bC0.kept ((Fr.refl [] _).drewN _) (by simp)
    have f1 := f0.drewN nq
    have hb1 := hb.kept f1 (by simp)
    generalize (w.alloc (.cells #[.string { data := #[] }, .int .i64 0] 43)).drewN nq = w1 at bC1 f1 hb1
    go_wp2_with (first
      | (refine wp_conv rfl _ rfl l _ (M + 1) _ rfl HL.out hb1 (fun _ => Or.inr ⟨_, _, rfl⟩) ?_)
      | (refine wp_storeB rfl _ _ rfl _ _ (mkS l) _ n rfl rfl bC1 ?_; intro w6 b6 f6))
    exact bodyPost_ret (resB2 Tryz.results53 _ _ _ (mkS l) n rfl b6) rfl ⟨Or.inl ⟨rfl, hu⟩, f1.then f6 (fun i hi hm => by simp at hm; omega)⟩
  · have hq := hq2 hu
    clear hq1 hq2
    go_enter Tryz.func53, Tryz.ntmps53
    go_wp2_with (go_at_call 58; refine (bytesFor_k _ n (M + 1) (by omega) HK.out).mono ?_; rintro e w5 ⟨rfl, rfl⟩)
    go_quiet ((go_at_call 90; exact Calls.quiet_of_same (fillOf_eq _ n (by omega))))
    have bC1 : Box ((w.alloc (.cells #[.string { data := #[] }, .int .i64 0] 43)).drewN nq) w.heap.size (mkS []) 0 := bC0.kept ((Fr.refl [] _).drewN _) (by simp)
    have f1 := f0.drewN nq
    generalize (w.alloc (.cells #[.string { data := #[] }, .int .i64 0] 43)).drewN nq = w1 at bC1 f1
    go_wp2_with (refine wp_storeB rfl _ _ rfl _ _ (mkS []) _ 0 rfl rfl bC1 ?_; intro w6 b6 f6)
    exact bodyPost_ret (resB2 Tryz.results53 _ _ _ (mkS []) 0 rfl b6) rfl ⟨Or.inr ⟨rfl, hu⟩, f1.then f6 (fun i hi hm => by simp at hm; omega)⟩

theorem unpack_any (w : World) (ad : Option Addr) (m c : Nat) (n : Int) (l : List UInt8) (hl : l.length = m) (hb : BytesAt w ad l) (hp : Plain ad) :
    Calls Tryz.prog 53 #[.slice ad m c, .int .i64 n] w fun e w' => ((e = .returned (.tuple #[bv (mkS l) n.toNat, .bool true]) ∧ UnOk l n) ∨ (e = .returned (.tuple #[bv (mkS []) 0, .bool false]) ∧ ¬ UnOk l n)) ∧ Fr [] w w' := by
  by_cases h0 : n < 0
  · exact (unpack_neg w ad m c n h0).mono fun _ _ h => ⟨Or.inr ⟨h.1, fun k => by have := k.1; omega⟩, h.2⟩
  by_cases h1 : 1048576 < n
  · exact (unpack_big w ad m c n (by omega) h1).mono fun _ _ h => ⟨Or.inr ⟨h.1, fun k => by have := k.2.1; omega⟩, h.2⟩
  obtain ⟨k, rfl⟩ : ∃ k : Nat, n = k := ⟨n.toNat, by omega⟩
  rw [Int.toNat_natCast]
  by_cases h2 : m = (k + 7) / 8
  · by_cases h8 : k % 8 = 0
    · exact (unpack_full w ad m c k l (by omega) h2.symm h8 hl hb hp).mono fun _ _ h => ⟨Or.inl ⟨h.1, unOk_full (by omega) (by rw [hl, h2]) h8⟩, h.2⟩
    · obtain ⟨b, off, e, _⟩ := hb.at 0 (by omega)
      subst e
      exact unpack_part w b off m (m - 1) c k l (by omega) h2.symm h8 hl (by omega) hb
  · exact (unpack_len w ad m c k (by omega) h2).mono fun _ _ h => ⟨Or.inr ⟨h.1, fun q => h2 (by rw [← hl]; have := q.2.2.1; simpa using this)⟩, h.2⟩

end Go.Proofs.YtddcilmeignlmaaGreatDoor
