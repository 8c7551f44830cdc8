/-
  Rows of bits and the bytes that they are packed in: plain mathematics, no program.
-/
import Derived.WalkKit
import Derived.Laws.BitsAllLaws
namespace Go.Proofs.YtopaeomjndblkaaGreat

def byteAt (l : List UInt8) (k : Nat) : UInt8 := l.getD k 0
/-- The bit at a place of packed bytes. -/
def bitAt (l : List UInt8) (i : Nat) : Bool := (byteAt l (i / 8)).toNat.testBit (7 - i % 8)

theorem byteAt_lt {l : List UInt8} {k : Nat} (h : k < l.length) : byteAt l k = l[k] := by simp [byteAt, h]
theorem byteAt_ge {l : List UInt8} {k : Nat} (h : l.length ≤ k) : byteAt l k = 0 := by simp [byteAt, h]
theorem bitAt_ge {l : List UInt8} {i : Nat} (h : 8 * l.length ≤ i) : bitAt l i = false := by
  unfold bitAt
  rw [byteAt_ge (by omega)]
  simp
theorem byteAt_set (l : List UInt8) (k j : Nat) (b : UInt8) (h : k < l.length) : byteAt (l.set k b) j = if j = k then b else byteAt l j := by
  unfold byteAt
  by_cases e : j = k
  · subst e; simp [h]
  · simp [e, show ¬ k = j from fun x => e x.symm]
theorem bitAt_set (l : List UInt8) (k i : Nat) (b : UInt8) (h : k < l.length) : bitAt (l.set k b) i = if i / 8 = k then b.toNat.testBit (7 - i % 8) else bitAt l i := by
  unfold bitAt
  rw [byteAt_set l k _ b h]
  split <;> rfl
theorem bitAt_zeros (n i : Nat) : bitAt (List.replicate n 0) i = false := by
  unfold bitAt byteAt
  have : (List.replicate n (0 : UInt8)).getD (i / 8) 0 = 0 := by
    simp only [List.getD_eq_getElem?_getD, List.getElem?_replicate]
    split <;> rfl
  rw [this]
  simp

theorem byte_ext {x y : UInt8} (h : ∀ j, j < 8 → x.toNat.testBit j = y.toNat.testBit j) : x = y := by
  apply UInt8.toNat_inj.1
  apply Nat.eq_of_testBit_eq
  intro j
  by_cases hj : j < 8
  · exact h j hj
  · have hx : x.toNat < 2 ^ j := Nat.lt_of_lt_of_le x.toNat_lt (Nat.pow_le_pow_right (by omega) (by omega))
    have hy : y.toNat < 2 ^ j := Nat.lt_of_lt_of_le y.toNat_lt (Nat.pow_le_pow_right (by omega) (by omega))
    rw [Nat.testBit_lt_two_pow hx, Nat.testBit_lt_two_pow hy]

theorem bitAt_at (l : List UInt8) (k m : Nat) (hm : m < 8) : bitAt l (8 * k + m) = (byteAt l k).toNat.testBit (7 - m) := by
  unfold bitAt
  rw [show (8 * k + m) / 8 = k by omega, show (8 * k + m) % 8 = m by omega]

theorem byteAt_ext {p q : List UInt8} {k : Nat} (h : ∀ m, m < 8 → bitAt p (8 * k + m) = bitAt q (8 * k + m)) : byteAt p k = byteAt q k := by
  apply byte_ext
  intro j hj
  have := h (7 - j) (by omega)
  rw [bitAt_at _ _ _ (by omega), bitAt_at _ _ _ (by omega), show 7 - (7 - j) = j by omega] at this
  exact this

theorem bits_ext {p q : List UInt8} (hl : p.length = q.length) (h : ∀ i, i < 8 * p.length → bitAt p i = bitAt q i) : p = q := by
  apply List.ext_getElem hl
  intro k h1 h2
  rw [← byteAt_lt h1, ← byteAt_lt h2]
  exact byteAt_ext (fun m hm => h _ (by omega))

/-! ### single bytes -/
def maskB (i : Nat) : UInt8 := UInt8.ofNat (128 / 2 ^ (i % 8))
def fillB (i : Nat) : UInt8 := UInt8.ofNat (255 / 2 ^ (i % 8))
theorem pow_cases {P : Nat → Prop} (h0 : P 0) (h1 : P 1) (h2 : P 2) (h3 : P 3) (h4 : P 4) (h5 : P 5) (h6 : P 6) (h7 : P 7) (j : Nat) (h : j < 8) : P j := by
  match j, h with
  | 0, _ => exact h0
  | 1, _ => exact h1
  | 2, _ => exact h2
  | 3, _ => exact h3
  | 4, _ => exact h4
  | 5, _ => exact h5
  | 6, _ => exact h6
  | 7, _ => exact h7

theorem mask_eq (i : Nat) : (maskB i).toNat = 2 ^ (7 - i % 8) := by
  unfold maskB
  have h : i % 8 < 8 := by omega
  generalize i % 8 = j at h
  revert h
  exact pow_cases (P := fun j => (UInt8.ofNat (128 / 2 ^ j)).toNat = 2 ^ (7 - j)) (by decide) (by decide) (by decide) (by decide) (by decide) (by decide) (by decide) (by decide) j
theorem mask_bit (i m : Nat) (hm : m < 8) : (maskB i).toNat.testBit (7 - m) = decide (m = i % 8) := by
  rw [mask_eq, Nat.testBit_two_pow]
  congr 1
  apply propext
  omega
theorem mask_int (i : Nat) : ((maskB i).toNat : Int) = (128 : Int) / (2 ^ (i % 8)) := by
  rw [mask_eq]
  have h : i % 8 < 8 := by omega
  generalize i % 8 = j at h
  revert h
  exact pow_cases (P := fun j => ((2 ^ (7 - j) : Nat) : Int) = (128 : Int) / (2 ^ j)) (by decide) (by decide) (by decide) (by decide) (by decide) (by decide) (by decide) (by decide) j
theorem fill_eq (i : Nat) : (fillB i).toNat = 2 ^ (8 - i % 8) - 1 := by
  unfold fillB
  have h : i % 8 < 8 := by omega
  generalize i % 8 = j at h
  revert h
  exact pow_cases (P := fun j => (UInt8.ofNat (255 / 2 ^ j)).toNat = 2 ^ (8 - j) - 1) (by decide) (by decide) (by decide) (by decide) (by decide) (by decide) (by decide) (by decide) j
theorem fill_bit (i m : Nat) (hm : m < 8) : (fillB i).toNat.testBit (7 - m) = decide (i % 8 ≤ m) := by
  rw [fill_eq, Nat.testBit_two_pow_sub_one]
  congr 1
  apply propext
  omega
theorem fill_int (i : Nat) : ((fillB i).toNat : Int) = (255 : Int) / (2 ^ (i % 8)) := by
  rw [fill_eq]
  have h : i % 8 < 8 := by omega
  generalize i % 8 = j at h
  revert h
  exact pow_cases (P := fun j => ((2 ^ (8 - j) - 1 : Nat) : Int) = (255 : Int) / (2 ^ j)) (by decide) (by decide) (by decide) (by decide) (by decide) (by decide) (by decide) (by decide) j

theorem and_mask (x : UInt8) (i : Nat) : ((x.toNat &&& (maskB i).toNat) != 0) = x.toNat.testBit (7 - i % 8) := by
  rw [mask_eq, nat_bit, Nat.testBit_eq_decide_div_mod_eq]
  have h : x.toNat / 2 ^ (7 - i % 8) % 2 < 2 := by omega
  have hp : 0 < 2 ^ (7 - i % 8) := Nat.pow_pos (by omega)
  generalize x.toNat / 2 ^ (7 - i % 8) % 2 = y at h
  generalize 2 ^ (7 - i % 8) = z at hp
  match y, h with
  | 0, _ => simp
  | 1, _ => simp; omega

def shr (x : UInt8) (s : Nat) : UInt8 := UInt8.ofNat (x.toNat / 2 ^ s)
def shl (x : UInt8) (s : Nat) : UInt8 := UInt8.ofNat (x.toNat * 2 ^ s % 256)
theorem shr_toNat (x : UInt8) (s : Nat) : (shr x s).toNat = x.toNat / 2 ^ s := by
  unfold shr
  rw [UInt8.toNat_ofNat', Nat.mod_eq_of_lt]
  exact Nat.lt_of_le_of_lt (Nat.div_le_self _ _) x.toNat_lt
theorem shl_toNat (x : UInt8) (s : Nat) : (shl x s).toNat = x.toNat * 2 ^ s % 256 := by
  unfold shl
  rw [UInt8.toNat_ofNat']
  omega
theorem shr_bit (x : UInt8) (s m : Nat) (_hm : m < 8) (_hs : s ≤ 8) : (shr x s).toNat.testBit (7 - m) = (decide (s ≤ m) && x.toNat.testBit (7 - (m - s))) := by
  rw [shr_toNat, Nat.testBit_div_two_pow]
  by_cases h : s ≤ m
  · rw [show 7 - (m - s) = 7 - m + s by omega]; simp [h]
  · have : x.toNat < 2 ^ (7 - m + s) := Nat.lt_of_lt_of_le x.toNat_lt (Nat.pow_le_pow_right (by omega) (by omega) : 2 ^ 8 ≤ 2 ^ (7 - m + s))
    rw [Nat.testBit_lt_two_pow this]
    simp [h]
theorem shl_bit (x : UInt8) (s m : Nat) (hm : m < 8) : (shl x s).toNat.testBit (7 - m) = (decide (m + s < 8) && x.toNat.testBit (7 - (m + s))) := by
  rw [shl_toNat, show (256 : Nat) = 2 ^ 8 from rfl, Nat.testBit_mod_two_pow, Nat.testBit_mul_two_pow]
  by_cases h : m + s < 8
  · rw [show 7 - m - s = 7 - (m + s) by omega]
    simp [h, show 7 - m < 8 by omega, show s ≤ 7 - m by omega]
  · simp [h, show 7 - m < 8 by omega, show ¬ s ≤ 7 - m by omega]
theorem or_bit (x y : UInt8) (m : Nat) : (x ||| y).toNat.testBit m = (x.toNat.testBit m || y.toNat.testBit m) := by
  rw [UInt8.toNat_or, Nat.testBit_or]
def andNot (x y : UInt8) : UInt8 := UInt8.ofNat (x.toNat &&& (255 - y.toNat))
theorem andNot_toNat (x y : UInt8) : (andNot x y).toNat = x.toNat &&& (255 - y.toNat) := by
  unfold andNot
  rw [UInt8.toNat_ofNat', Nat.mod_eq_of_lt]
  exact Nat.lt_of_le_of_lt Nat.and_le_left x.toNat_lt
theorem andNot_bit (x y : UInt8) (m : Nat) (hm : m < 8) : (andNot x y).toNat.testBit (7 - m) = (x.toNat.testBit (7 - m) && !y.toNat.testBit (7 - m)) := by
  have hy : y.toNat < 2 ^ 8 := y.toNat_lt
  rw [andNot_toNat, Nat.testBit_and, show 255 - y.toNat = 2 ^ 8 - (y.toNat + 1) by omega, Nat.testBit_two_pow_sub_succ hy]
  simp [show 7 - m < 8 by omega]

/-! ### the walk's own forms -/
theorem or_int (x y : UInt8) : bits .or .u8 (x.toNat : Int) (y.toNat : Int) = (((x ||| y).toNat : Nat) : Int) := by
  rw [u8_or_nat _ _ x.toNat_lt y.toNat_lt, UInt8.toNat_or]
theorem and_int (x y : UInt8) : bits .and .u8 (x.toNat : Int) (y.toNat : Int) = ((x.toNat &&& y.toNat : Nat) : Int) := u8_and_nat _ _ x.toNat_lt y.toNat_lt
theorem andNot_int (x y : UInt8) : bits .andNot .u8 (x.toNat : Int) (y.toNat : Int) = (((andNot x y).toNat : Nat) : Int) := by
  rw [u8_andNot_nat _ _ x.toNat_lt y.toNat_lt, andNot_toNat]

theorem shr_int (x : UInt8) (s : Nat) : ((shr x s).toNat : Int) = (x.toNat : Int) / 2 ^ s := by
  rw [shr_toNat, Int.natCast_ediv]
  congr 1
theorem shl_int (x : UInt8) (s : Nat) : ((shl x s).toNat : Int) = (x.toNat : Int) * 2 ^ s % 256 := by
  rw [shl_toNat]
  simp
theorem byte_bit (l : List UInt8) (j k : Nat) (h : k / 8 = j) : (byteAt l j).toNat.testBit (7 - k % 8) = bitAt l k := by
  subst h
  rfl
theorem and_mask_int (l : List UInt8) (i : Nat) : (bits .and .u8 ((byteAt l (i / 8)).toNat : Int) ((maskB i).toNat : Int) != 0) = bitAt l i := by
  rw [and_int, bitAt, ← and_mask]
  generalize (byteAt l (i / 8)).toNat &&& (maskB i).toNat = k
  cases k with
  | zero => rfl
  | succ k => rfl

/-! ### rows -/
def bl (s : ByteArray) : List UInt8 := s.data.toList
theorem bl_length (s : ByteArray) : (bl s).length = s.size := rfl
def mkS (l : List UInt8) : ByteArray := ⟨l.toArray⟩
theorem bl_mkS (l : List UInt8) : bl (mkS l) = l := rfl
theorem mkS_bl (s : ByteArray) : mkS (bl s) = s := rfl
theorem mkS_size (l : List UInt8) : (mkS l).size = l.length := rfl
theorem get_byteAt (s : ByteArray) (k : Nat) (h : k < s.size) : s[k] = byteAt (bl s) k := by
  rw [byteAt_lt (by rw [bl_length]; exact h)]
  rfl

/-- A string and a length say a row of bits. -/
structure Rep (s : ByteArray) (n : Nat) (r : List Bool) : Prop where
  len : r.length = n
  most : n ≤ 1048576
  size : s.size = (n + 7) / 8
  bit : ∀ i, bitAt (bl s) i = r.getD i false

theorem Rep.of {l : List UInt8} {r : List Bool} (hn : r.length ≤ 1048576) (hl : l.length = (r.length + 7) / 8) (h : ∀ i, i < 8 * l.length → bitAt l i = r.getD i false) : Rep (mkS l) r.length r :=
  ⟨rfl, hn, by rw [mkS_size]; exact hl, fun i => by
    rw [bl_mkS]
    by_cases hi : i < 8 * l.length
    · exact h i hi
    · rw [bitAt_ge (by omega)]
      simp only [List.getD_eq_getElem?_getD]
      rw [List.getElem?_eq_none (by omega)]
      rfl⟩
theorem Rep.bl_len {s : ByteArray} {n : Nat} {r : List Bool} (h : Rep s n r) : (bl s).length = (n + 7) / 8 := by rw [bl_length, h.size]
theorem Rep.unique {s t : ByteArray} {n m : Nat} {r : List Bool} (h : Rep s n r) (k : Rep t m r) : s = t ∧ n = m := by
  have e : n = m := h.len.symm.trans k.len
  subst e
  refine ⟨?_, rfl⟩
  have : bl s = bl t := bits_ext (by rw [h.bl_len, k.bl_len]) (fun i _ => by rw [h.bit, k.bit])
  rw [← mkS_bl s, ← mkS_bl t, this]
theorem Rep.inj {s : ByteArray} {n : Nat} {r q : List Bool} (h : Rep s n r) (k : Rep s n q) : r = q := by
  apply List.ext_getElem (h.len.trans k.len.symm)
  intro i h1 h2
  have := (h.bit i).symm.trans (k.bit i)
  simpa [h1, h2] using this
theorem Rep.empty : Rep (mkS []) 0 [] := ⟨rfl, by omega, rfl, fun i => by rw [bl_mkS]; simp [bitAt, byteAt]⟩

end Go.Proofs.YtopaeomjndblkaaGreat
