/-
  Numbers as bytes, the highest first; CRC-32: plain mathematics, no program.
-/
import Derived.Test.YtopaeomjndblkaaGreatMath
namespace Go.Proofs.YtopaeomjndblkaaGreat

theorem u8_ofNat_toNat (n : Nat) : (UInt8.ofNat n).toNat = n % 256 := UInt8.toNat_ofNat'
theorem u8_of (b : UInt8) (n : Nat) (h : n % 256 = b.toNat) : UInt8.ofNat n = b := by
  apply UInt8.toNat_inj.1; rw [u8_ofNat_toNat]; exact h

/-- The number that bytes say. -/
def valL (l : List UInt8) : Nat := l.foldl (fun n b => n * 256 + b.toNat) 0
theorem valL_snoc (l : List UInt8) (b : UInt8) : valL (l ++ [b]) = valL l * 256 + b.toNat := by simp [valL]
theorem valL_lt (l : List UInt8) : valL l < 256 ^ l.length := by
  suffices h : ∀ r : List UInt8, valL r.reverse < 256 ^ r.length by simpa using h l.reverse
  intro r
  induction r with
  | nil => simp [valL]
  | cons b r ih =>
    rw [List.reverse_cons, valL_snoc, List.length_cons, Nat.pow_succ]
    have := b.toNat_lt
    omega

/-- A number in so many bytes. -/
def beK : Nat → Nat → List UInt8
  | 0, _ => []
  | k + 1, n => beK k (n / 256) ++ [UInt8.ofNat n]
theorem beK_length (k n : Nat) : (beK k n).length = k := by
  induction k generalizing n with
  | zero => rfl
  | succ k ih => simp [beK, ih]
theorem beK_step (k j n : Nat) (h : j < k) : beK j (n / 256 ^ (k - j)) ++ [UInt8.ofNat (n / 256 ^ (k - j - 1))] = beK (j + 1) (n / 256 ^ (k - (j + 1))) := by
  show _ = beK j (n / 256 ^ (k - (j + 1)) / 256) ++ [UInt8.ofNat (n / 256 ^ (k - (j + 1)))]
  rw [Nat.div_div_eq_div_mul, ← Nat.pow_succ, show (k - (j + 1)).succ = k - j by omega, show k - j - 1 = k - (j + 1) by omega]
theorem valL_beK (k n : Nat) : valL (beK k n) = n % 256 ^ k := by
  induction k generalizing n with
  | zero => simp [beK, valL, Nat.mod_one]
  | succ k ih =>
    rw [beK, valL_snoc, ih, u8_ofNat_toNat, Nat.pow_succ, Nat.mul_comm (256 ^ k) 256, Nat.mod_mul]
    omega
theorem beK_mod (k n : Nat) : beK k (n % 256 ^ k) = beK k n := by
  induction k generalizing n with
  | zero => rfl
  | succ k ih =>
    have h1 : n % 256 ^ (k + 1) / 256 = n / 256 % 256 ^ k := by
      rw [Nat.pow_succ, Nat.mul_comm, Nat.mod_mul_right_div_self]
    have h2 : UInt8.ofNat (n % 256 ^ (k + 1)) = UInt8.ofNat n := by
      apply UInt8.toNat_inj.1
      rw [u8_ofNat_toNat, u8_ofNat_toNat, Nat.pow_succ, Nat.mod_mul_left_mod]
    rw [beK, h1, ih, h2, beK]
theorem beK_valL (l : List UInt8) : beK l.length (valL l) = l := by
  suffices h : ∀ r : List UInt8, beK r.length (valL r.reverse) = r.reverse by
    have := h l.reverse
    simpa using this
  intro r
  induction r with
  | nil => rfl
  | cons b r ih =>
    rw [List.length_cons, List.reverse_cons, valL_snoc, beK]
    have hb := b.toNat_lt
    rw [show (valL r.reverse * 256 + b.toNat) / 256 = valL r.reverse by omega, ih, u8_of b _ (by omega)]
theorem beK_inj {k m n : Nat} (hm : m < 256 ^ k) (hn : n < 256 ^ k) (h : beK k m = beK k n) : m = n := by
  have := congrArg valL h
  rwa [valL_beK, valL_beK, Nat.mod_eq_of_lt hm, Nat.mod_eq_of_lt hn] at this

/-! ### the sum -/
def cbit (c : Nat) : Nat := if c % 2 = 1 then (c / 2) ^^^ 3988292384 else c / 2
def cbits : Nat → Nat → Nat
  | 0, c => c
  | k + 1, c => cbit (cbits k c)
def cbyte (c : Nat) (b : UInt8) : Nat := cbits 8 (c ^^^ b.toNat)
def crcL (c : Nat) (l : List UInt8) : Nat := l.foldl cbyte c
def crc (l : List UInt8) : Nat := crcL 4294967295 l ^^^ 4294967295
theorem crcL_nil (c : Nat) : crcL c [] = c := by unfold crcL; rw [List.foldl_nil]
theorem crcL_cons (c : Nat) (b : UInt8) (l : List UInt8) : crcL c (b :: l) = crcL (cbyte c b) l := by unfold crcL; rw [List.foldl_cons]
theorem crcL_app (c : Nat) (a b : List UInt8) : crcL c (a ++ b) = crcL (crcL c a) b := by simp [crcL]
theorem crcL_snoc (c : Nat) (a : List UInt8) (b : UInt8) : crcL c (a ++ [b]) = cbyte (crcL c a) b := by rw [crcL_app, crcL_cons, crcL_nil]
theorem cbit_lt {c : Nat} (h : c < 4294967296) : cbit c < 4294967296 := by
  unfold cbit
  split
  · exact Nat.xor_lt_two_pow (n := 32) (by omega) (by omega)
  · omega
theorem cbits_lt {c : Nat} (h : c < 4294967296) (k : Nat) : cbits k c < 4294967296 := by
  induction k with
  | zero => exact h
  | succ k ih => exact cbit_lt ih
theorem xor8_lt {c : Nat} (h : c < 4294967296) (b : UInt8) : c ^^^ b.toNat < 4294967296 := by
  have := b.toNat_lt
  exact Nat.xor_lt_two_pow (n := 32) (by omega) (by omega)
theorem cbyte_lt {c : Nat} (h : c < 4294967296) (b : UInt8) : cbyte c b < 4294967296 := by unfold cbyte; exact cbits_lt (xor8_lt h b) 8
theorem crcL_lt {c : Nat} (h : c < 4294967296) (l : List UInt8) : crcL c l < 4294967296 := by
  induction l generalizing c with
  | nil => exact h
  | cons b l ih => rw [crcL_cons]; exact ih (cbyte_lt h b)
theorem crc_lt (l : List UInt8) : crc l < 4294967296 := Nat.xor_lt_two_pow (n := 32) (crcL_lt (by omega) l) (by omega)

theorem half_eq {x y : Nat} (h : x ^^^ 3988292384 = y) (hx : x < 2147483648) : 2147483648 ≤ y := by
  have ht : y.testBit 31 = true := by
    rw [← h, Nat.testBit_xor, Nat.testBit_lt_two_pow (show x < 2 ^ 31 by omega)]
    decide
  exact Nat.ge_two_pow_of_testBit ht
theorem cbit_inj {c d : Nat} (hc : c < 4294967296) (hd : d < 4294967296) (h : cbit c = cbit d) : c = d := by
  unfold cbit at h
  split at h <;> split at h
  · have h2 := congrArg (· ^^^ 3988292384) h
    simp only [Nat.xor_assoc, Nat.xor_self, Nat.xor_zero] at h2
    omega
  · have := half_eq h (by omega); omega
  · have := half_eq h.symm (by omega); omega
  · omega
theorem cbits_inj {c d : Nat} (hc : c < 4294967296) (hd : d < 4294967296) (k : Nat) (h : cbits k c = cbits k d) : c = d := by
  induction k with
  | zero => exact h
  | succ k ih => exact ih (cbit_inj (cbits_lt hc k) (cbits_lt hd k) h)
theorem xor_can {a b c : Nat} (h : a ^^^ c = b ^^^ c) : a = b := by
  have h2 := congrArg (· ^^^ c) h
  simpa only [Nat.xor_assoc, Nat.xor_self, Nat.xor_zero] using h2
theorem cbyte_inj {c d : Nat} (hc : c < 4294967296) (hd : d < 4294967296) (b : UInt8) (h : cbyte c b = cbyte d b) : c = d :=
  xor_can (cbits_inj (xor8_lt hc b) (xor8_lt hd b) 8 h)
theorem cbyte_inj' {c : Nat} (hc : c < 4294967296) {a b : UInt8} (h : cbyte c a = cbyte c b) : a = b := by
  have h1 := cbits_inj (xor8_lt hc a) (xor8_lt hc b) 8 h
  rw [Nat.xor_comm c, Nat.xor_comm c] at h1
  exact UInt8.toNat_inj.1 (xor_can h1)
theorem crcL_inj {c d : Nat} (hc : c < 4294967296) (hd : d < 4294967296) (l : List UInt8) (h : crcL c l = crcL d l) : c = d := by
  induction l generalizing c d with
  | nil => exact h
  | cons b l ih => rw [crcL_cons, crcL_cons] at h; exact cbyte_inj hc hd b (ih (cbyte_lt hc b) (cbyte_lt hd b) h)
/-- One byte turned, the sum is another one. -/
theorem crc_turn (p q : List UInt8) (a b : UInt8) (h : crc (p ++ a :: q) = crc (p ++ b :: q)) : a = b := by
  have h1 := xor_can h
  rw [crcL_app, crcL_app, crcL_cons, crcL_cons] at h1
  have hp := crcL_lt (c := 4294967295) (by omega) p
  exact cbyte_inj' hp (crcL_inj (cbyte_lt hp a) (cbyte_lt hp b) q h1)

end Go.Proofs.YtopaeomjndblkaaGreat
