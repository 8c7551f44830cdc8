/-
  How two rows stand: plain mathematics.
-/
import Derived.Test.YtddcilmeignlmaaGreatDoorUnpack
import Derived.Lib.Bytealg
namespace Go.Proofs.YtddcilmeignlmaaGreatDoor
open Go.RowKit Go.Lib

theorem least {P : Nat → Prop} (h : ∃ i, P i) : ∃ i, P i ∧ ∀ j, j < i → ¬ P j := by
  obtain ⟨i, hi⟩ := h
  induction i using Nat.strongRecOn with
  | _ i ih =>
    by_cases hj : ∃ j, j < i ∧ P j
    · obtain ⟨j, h1, h2⟩ := hj
      exact ih j h1 h2
    · exact ⟨i, hi, fun j h1 h2 => hj ⟨j, h1, h2⟩⟩

theorem cb_self : ∀ l : List UInt8, compareBytes l l = 0
  | [] => rfl
  | x :: r => by
    unfold compareBytes
    rw [if_neg (UInt8.lt_irrefl x), if_neg (UInt8.lt_irrefl x)]
    exact cb_self r
theorem cb_sym : ∀ l m : List UInt8, compareBytes m l = - compareBytes l m
  | [], [] => rfl
  | [], _ :: _ => rfl
  | _ :: _, [] => rfl
  | x :: l, y :: m => by
    unfold compareBytes
    by_cases h1 : x < y
    · have h2 : ¬ y < x := fun h => UInt8.lt_irrefl _ (UInt8.lt_trans h1 h)
      rw [if_neg h2, if_pos h1, if_pos h1]
      rfl
    · by_cases h2 : y < x
      · rw [if_pos h2, if_neg h1, if_pos h2]
      · rw [if_neg h2, if_neg h1, if_neg h1, if_neg h2]
        exact cb_sym l m
theorem byteAt_cons_zero (x : UInt8) (l : List UInt8) : byteAt (x :: l) 0 = x := rfl
theorem byteAt_cons_succ (x : UInt8) (l : List UInt8) (k : Nat) : byteAt (x :: l) (k + 1) = byteAt l k := by simp [byteAt]
theorem cb_lt : ∀ (k : Nat) (l m : List UInt8), k < l.length → k < m.length → (∀ j, j < k → byteAt l j = byteAt m j) → byteAt l k < byteAt m k → compareBytes l m = -1
  | 0, x :: l, y :: m, _, _, _, h => by
    unfold compareBytes
    rw [if_pos]
    exact h
  | k + 1, x :: l, y :: m, h1, h2, hj, h => by
    have e : x = y := hj 0 (by omega)
    subst e
    unfold compareBytes
    rw [if_neg (UInt8.lt_irrefl x), if_neg (UInt8.lt_irrefl x)]
    refine cb_lt k l m (by simpa using h1) (by simpa using h2) (fun j hj' => ?_) ?_
    · have := hj (j + 1) (by omega)
      rwa [byteAt_cons_succ, byteAt_cons_succ] at this
    · rwa [byteAt_cons_succ, byteAt_cons_succ] at h
theorem cb_pre : ∀ (l m : List UInt8), l.length < m.length → (∀ j, j < l.length → byteAt l j = byteAt m j) → compareBytes l m = -1
  | [], y :: m, _, _ => rfl
  | x :: l, y :: m, h, hj => by
    have e : x = y := hj 0 (by simp)
    subst e
    unfold compareBytes
    rw [if_neg (UInt8.lt_irrefl x), if_neg (UInt8.lt_irrefl x)]
    refine cb_pre l m (by simpa using h) (fun j hj' => ?_)
    have := hj (j + 1) (by simpa using hj')
    rwa [byteAt_cons_succ, byteAt_cons_succ] at this

theorem lt_of_bits (x y i : Nat) (hx : x.testBit i = false) (hy : y.testBit i = true) (h : ∀ j, i < j → x.testBit j = y.testBit j) : x < y := by
  have hd : x / 2 ^ (i + 1) = y / 2 ^ (i + 1) := Nat.eq_of_testBit_eq (fun j => by rw [Nat.testBit_div_two_pow, Nat.testBit_div_two_pow]; exact h _ (by omega))
  rw [Nat.testBit_eq_decide_div_mod_eq] at hx hy
  have hx' : ¬ x / 2 ^ i % 2 = 1 := of_decide_eq_false hx
  have hy' : y / 2 ^ i % 2 = 1 := of_decide_eq_true hy
  have ex : x / 2 ^ (i + 1) = x / 2 ^ i / 2 := by rw [Nat.pow_succ, Nat.div_div_eq_div_mul]
  have ey : y / 2 ^ (i + 1) = y / 2 ^ i / 2 := by rw [Nat.pow_succ, Nat.div_div_eq_div_mul]
  rw [ex, ey] at hd
  apply Nat.lt_of_not_le
  intro hle
  have := Nat.div_le_div_right (c := 2 ^ i) hle
  omega

/-- Bytes of which the first bit that differs is 0 here and 1 there. -/
theorem cb_bits (l m : List UInt8) (i : Nat) (he : ∀ j, j < i → bitAt l j = bitAt m j) (h0 : bitAt l i = false) (h1 : bitAt m i = true) : compareBytes l m = -1 := by
  have hm : i / 8 < m.length := by
    by_cases h : i / 8 < m.length
    · exact h
    · rw [bitAt_ge (by omega)] at h1; cases h1
  have hb : ∀ j, j < i / 8 → byteAt l j = byteAt m j := fun j hj => byteAt_ext (fun k hk => he _ (by omega))
  by_cases hl : i / 8 < l.length
  · refine cb_lt (i / 8) l m hl hm hb ?_
    rw [UInt8.lt_iff_toNat_lt]
    refine lt_of_bits _ _ (7 - i % 8) h0 h1 (fun j hj => ?_)
    by_cases h8 : j < 8
    · have e := he (8 * (i / 8) + (7 - j)) (by omega)
      rw [bitAt_at _ _ _ (by omega), bitAt_at _ _ _ (by omega), show 7 - (7 - j) = j by omega] at e
      exact e
    · have hx : (byteAt l (i / 8)).toNat < 2 ^ j := Nat.lt_of_lt_of_le (byteAt l (i / 8)).toNat_lt (Nat.pow_le_pow_right (by omega) (by omega))
      have hy : (byteAt m (i / 8)).toNat < 2 ^ j := Nat.lt_of_lt_of_le (byteAt m (i / 8)).toNat_lt (Nat.pow_le_pow_right (by omega) (by omega))
      rw [Nat.testBit_lt_two_pow hx, Nat.testBit_lt_two_pow hy]
  · exact cb_pre l m (by omega) (fun j hj => hb j (by omega))
theorem cb_bits' (l m : List UInt8) (i : Nat) (he : ∀ j, j < i → bitAt l j = bitAt m j) (h0 : bitAt l i = true) (h1 : bitAt m i = false) : compareBytes l m = 1 := by
  rw [cb_sym m l, cb_bits m l i (fun j hj => (he j hj).symm) h1 h0]
  rfl

theorem byteAt_txt (r : List Bool) (j : Nat) (h : j < r.length) : byteAt (txt r) j = chr (r.getD j false) := by
  rw [byteAt_lt (by rw [txt_length]; exact h)]
  simp [txt, h]
theorem chr_lt : chr false < chr true := by decide
/-- How two rows stand. -/
def stand (r q : List Bool) : Int := compareBytes (txt r) (txt q)
theorem stand_sym (r q : List Bool) : stand q r = - stand r q := cb_sym _ _
theorem stand_self (r : List Bool) : stand r r = 0 := cb_self _
theorem stand_bits (r q : List Bool) (i : Nat) (he : ∀ j, j < i → r.getD j false = q.getD j false) (h0 : r.getD i false = false) (h1 : q.getD i false = true) : stand r q = -1 := by
  have hq : i < q.length := by
    by_cases h : i < q.length
    · exact h
    · simp only [List.getD_eq_getElem?_getD] at h1
      rw [List.getElem?_eq_none (by omega)] at h1
      cases h1
  unfold stand
  by_cases hr : i < r.length
  · refine cb_lt i _ _ (by rw [txt_length]; exact hr) (by rw [txt_length]; exact hq) (fun j hj => ?_) ?_
    · rw [byteAt_txt r j (by omega), byteAt_txt q j (by omega), he j hj]
    · rw [byteAt_txt r i hr, byteAt_txt q i hq, h0, h1]; exact chr_lt
  · refine cb_pre _ _ (by rw [txt_length, txt_length]; omega) (fun j hj => ?_)
    rw [txt_length] at hj
    rw [byteAt_txt r j hj, byteAt_txt q j (by omega), he j (by omega)]
theorem stand_pre (r q : List Bool) (h : r.length < q.length) (he : ∀ j, r.getD j false = q.getD j false) : stand r q = -1 := by
  refine cb_pre _ _ (by rw [txt_length, txt_length]; exact h) (fun j hj => ?_)
  rw [txt_length] at hj
  rw [byteAt_txt r j hj, byteAt_txt q j (by omega), he j]

def cmpI (n m : Nat) : Int := if n < m then -1 else if m < n then 1 else 0
/-- What Compare tells of two rows that are not alike. -/
def told (c d : Int) : Int := if c = 0 then d else c

theorem stand_rep {s t : ByteArray} {n m : Nat} {r q : List Bool} (h : Rep s n r) (k : Rep t m q) : told (compareBytes (bl s) (bl t)) (cmpI n m) = stand r q := by
  by_cases hd : ∃ i, bitAt (bl s) i ≠ bitAt (bl t) i
  · obtain ⟨i, hi, hmin⟩ := least hd
    have he : ∀ j, j < i → bitAt (bl s) j = bitAt (bl t) j := fun j hj => Classical.not_not.1 (hmin j hj)
    have he' : ∀ j, j < i → r.getD j false = q.getD j false := fun j hj => by rw [← h.bit, ← k.bit]; exact he j hj
    cases hs : bitAt (bl s) i
    · cases ht : bitAt (bl t) i
      · rw [hs, ht] at hi; exact absurd rfl hi
      · rw [cb_bits _ _ i he hs ht, stand_bits r q i he' (by rw [← h.bit]; exact hs) (by rw [← k.bit]; exact ht)]
        rfl
    · cases ht : bitAt (bl t) i
      · rw [cb_bits' _ _ i he hs ht, stand_sym q r, stand_bits q r i (fun j hj => (he' j hj).symm) (by rw [← k.bit]; exact ht) (by rw [← h.bit]; exact hs)]
        rfl
      · rw [hs, ht] at hi; exact absurd rfl hi
  · have he : ∀ j, bitAt (bl s) j = bitAt (bl t) j := fun j => Classical.byContradiction fun hj => hd ⟨j, hj⟩
    have he' : ∀ j, r.getD j false = q.getD j false := fun j => by rw [← h.bit, ← k.bit]; exact he j
    have hb : ∀ j, byteAt (bl s) j = byteAt (bl t) j := fun j => byteAt_ext (fun _ _ => he _)
    have l1 := h.bl_len
    have l2 := k.bl_len
    have l3 := h.len
    have l4 := k.len
    rcases Nat.lt_trichotomy n m with hnm | hnm | hnm
    · rw [stand_pre r q (by omega) he']
      unfold told
      split
      · unfold cmpI; rw [if_pos hnm]
      · rename_i hne
        by_cases hlt : (bl s).length < (bl t).length
        · exact cb_pre _ _ hlt (fun j _ => hb j)
        · have : bl s = bl t := bits_ext (by omega) (fun i _ => he i)
          rw [this, cb_self] at hne
          exact absurd rfl hne
    · subst hnm
      have : bl s = bl t := bits_ext (by omega) (fun i _ => he i)
      rw [this, cb_self]
      have e2 : r = q := by
        apply List.ext_getElem (by omega)
        intro i h1 h2
        have := he' i
        simpa [h1, h2] using this
      subst e2
      rw [stand_self]
      simp [told, cmpI]
    · rw [stand_sym q r, stand_pre q r (by omega) (fun j => (he' j).symm)]
      unfold told
      split
      · unfold cmpI; rw [if_neg (by omega), if_pos hnm]; rfl
      · rename_i hne
        by_cases hlt : (bl t).length < (bl s).length
        · rw [cb_sym (bl t) (bl s), cb_pre _ _ hlt (fun j _ => (hb j).symm)]
        · have : bl s = bl t := bits_ext (by omega) (fun i _ => he i)
          rw [this, cb_self] at hne
          exact absurd rfl hne

theorem stand_zero {r q : List Bool} (h : stand r q = 0) : r = q := by
  have e : txt r = txt q := by
    unfold stand at h
    generalize txt r = l at h
    generalize txt q = m at h
    induction l generalizing m with
    | nil => cases m with
      | nil => rfl
      | cons y m => cases h
    | cons x l ih => cases m with
      | nil => cases h
      | cons y m =>
        unfold compareBytes at h
        by_cases h1 : x < y
        · rw [if_pos h1] at h; cases h
        · by_cases h2 : y < x
          · rw [if_neg h1, if_pos h2] at h; cases h
          · rw [if_neg h1, if_neg h2] at h
            have : x = y := UInt8.le_antisymm (UInt8.not_lt.1 h2) (UInt8.not_lt.1 h1)
            rw [this, ih m h]
  unfold txt at e
  have hinj : ∀ a b : Bool, chr a = chr b → a = b := by decide
  exact List.map_inj_right hinj |>.1 e

end Go.Proofs.YtddcilmeignlmaaGreatDoor
