/-
  Spans put over a page turn it into the other: plain mathematics.
-/
import Derived.Test.YtlfpoeimgoikkaaGDifM
import Derived.Test.YtlfpoeimgoikkaaGPut
namespace Go.Proofs.Ytlfpoeimgoikkaa

theorem rises_pair {a b : List UInt8} : ∀ {D : List (Nat × Nat)} {m : Nat}, Rises a b m D → (∀ k (hk : k < D.length), m ≤ (D[k]'hk).1 ∧ (D[k]'hk).1 < (D[k]'hk).2 ∧ byteAt a (D[k]'hk).1 ≠ byteAt b (D[k]'hk).1 ∧ byteAt a ((D[k]'hk).2 - 1) ≠ byteAt b ((D[k]'hk).2 - 1)) ∧ (∀ k l (hl : l < D.length) (hkl : k < l), (D[k]'(by omega)).2 + 8 ≤ (D[l]'hl).1)
  | [], _, _ => ⟨fun k hk => absurd hk (by simp), fun k l hl => absurd hl (by simp)⟩
  | (f, t) :: r, m, h => by
    obtain ⟨h1, h2, h3, h4, h5⟩ := h
    obtain ⟨p1, p2⟩ := rises_pair h5
    refine ⟨fun k hk => ?_, fun k l hl hkl => ?_⟩
    · cases k with
      | zero => exact ⟨h1, h2, h3, h4⟩
      | succ k =>
        have := p1 k (by simpa using hk)
        exact ⟨by have := this.1; simp only [List.getElem_cons_succ]; omega, this.2⟩
    · cases l with
      | zero => omega
      | succ l =>
        cases k with
        | zero => exact (p1 l (by simpa using hl)).1
        | succ k => exact p2 k l (by simpa using hl) (by omega)

/-- The end of the last of the first i spans. -/
def lastE (D : List (Nat × Nat)) (i : Nat) : Nat := if i = 0 then 0 else (D.getD (i - 1) (0, 0)).2

theorem diff_ends (a b : List UInt8) : ∀ x ∈ diffS a b, x.2 ≤ 512 := by
  intro x hx
  have ok := dwalk_ok a b 512
  unfold diffS at hx
  generalize dwalk a b 512 = s at ok hx
  unfold spansOf at hx
  have h1 := ok.le
  by_cases ht : s.2.2 = 0
  · rw [if_pos ht, (ok.none ht).1] at hx
    cases hx
  · rw [if_neg ht] at hx
    have h2 := ok.cur ht
    rcases List.mem_append.1 hx with h | h
    · have := h2.2.2.2 x h
      omega
    · have : x = (s.2.1, s.2.2) := by simpa using h
      subst this
      exact h1
theorem diff_rises (a b : List UInt8) : Rises a b 0 (diffS a b) := by
  have ok := dwalk_ok a b 512
  unfold diffS
  generalize dwalk a b 512 = s at ok
  unfold spansOf
  by_cases ht : s.2.2 = 0
  · rw [if_pos ht]
    exact ok.rises
  · rw [if_neg ht]
    obtain ⟨c1, c2, c3, c4⟩ := ok.cur ht
    exact ok.rises.snoc c4 (by omega) c1 c2 c3

structure TOk (a b : List UInt8) (L f t : Nat) : Prop where
  lt : f < t
  le : t ≤ 512
  ne0 : byteAt a f ≠ byteAt b f
  ne1 : byteAt a (t - 1) ≠ byteAt b (t - 1)
  gap : L = 0 ∨ L + 8 ≤ f
  same : ∀ j, L ≤ j → j < f → byteAt a j = byteAt b j

theorem lastE_zero (D : List (Nat × Nat)) : lastE D 0 = 0 := rfl
theorem lastE_succ (D : List (Nat × Nat)) (i : Nat) (h : i < D.length) : lastE D (i + 1) = (D[i]'h).2 := by
  unfold lastE
  rw [if_neg (by omega), Nat.add_sub_cancel, List.getD_eq_getElem?_getD, List.getElem?_eq_getElem h]
  rfl
theorem diff_same (a b : List UInt8) (i : Nat) (hi : i ≤ (diffS a b).length) (j : Nat) (hj : j < 512) (h1 : lastE (diffS a b) i ≤ j) (h2 : ∀ (h : i < (diffS a b).length), j < ((diffS a b)[i]'h).1) : byteAt a j = byteAt b j := by
  have ok := dwalk_ok a b 512
  obtain ⟨p1, p2⟩ := rises_pair (diff_rises a b)
  refine ok.out j hj (fun x hx hc => ?_)
  have hx' : x ∈ diffS a b := hx
  obtain ⟨k, hk, rfl⟩ := List.mem_iff_getElem.1 hx'
  have q := (p1 k hk).2.1
  by_cases hki : k < i
  · obtain ⟨i', rfl⟩ : ∃ i', i = i' + 1 := ⟨i - 1, by omega⟩
    rw [lastE_succ _ _ (by omega)] at h1
    by_cases hk2 : k = i'
    · subst hk2
      omega
    · have := p2 k i' (by omega) (by omega)
      have := (p1 i' (by omega)).2.1
      omega
  · have h3 := h2 (by omega)
    by_cases hk2 : k = i
    · subst hk2
      omega
    · have := p2 i k hk (by omega)
      have := (p1 i (by omega)).2.1
      omega
theorem diff_tok (a b : List UInt8) (i : Nat) (hi : i < (diffS a b).length) : TOk a b (lastE (diffS a b) i) ((diffS a b)[i]'hi).1 ((diffS a b)[i]'hi).2 := by
  obtain ⟨p1, p2⟩ := rises_pair (diff_rises a b)
  obtain ⟨q0, q1, q2, q3⟩ := p1 i hi
  have hle := diff_ends a b _ (List.getElem_mem hi)
  refine ⟨q1, hle, q2, q3, ?_, fun j h1 h2 => diff_same a b i (by omega) j (by omega) h1 (fun _ => h2)⟩
  by_cases h0 : i = 0
  · subst h0
    exact Or.inl rfl
  · obtain ⟨i', rfl⟩ : ∃ i', i = i' + 1 := ⟨i - 1, by omega⟩
    rw [lastE_succ _ _ (by omega)]
    exact Or.inr (p2 i' (i' + 1) hi (by omega))

/-- The first L bytes of one page, the rest of another. -/
def mixL (a b : List UInt8) (L : Nat) : List UInt8 := b.take L ++ a.drop L
theorem mixL_length (a b : List UInt8) (L : Nat) (ha : a.length = 512) (hb : b.length = 512) (hL : L ≤ 512) : (mixL a b L).length = 512 := by
  unfold mixL
  rw [List.length_append, List.length_take, List.length_drop]
  omega
theorem mixL_zero (a b : List UInt8) : mixL a b 0 = a := by simp [mixL]
theorem mixL_get (a b : List UInt8) (L j : Nat) (hb : L ≤ b.length) : (mixL a b L)[j]? = if j < L then b[j]? else a[j]? := by
  unfold mixL
  by_cases h : j < L
  · rw [if_pos h, List.getElem?_append_left (by rw [List.length_take]; omega), List.getElem?_take, if_pos h]
  · rw [if_neg h, List.getElem?_append_right (by rw [List.length_take]; omega), List.length_take, List.getElem?_drop]
    congr 1
    omega
theorem mixL_all (a b : List UInt8) (L : Nat) (ha : a.length = 512) (hb : b.length = 512) (hL : L ≤ 512) (h : ∀ j, L ≤ j → j < 512 → byteAt a j = byteAt b j) : mixL a b L = b := by
  apply List.ext_getElem?
  intro j
  rw [mixL_get _ _ _ _ (by omega)]
  by_cases hj : j < L
  · rw [if_pos hj]
  · rw [if_neg hj]
    by_cases hj2 : j < 512
    · have := h j (by omega) hj2
      rw [List.getElem?_eq_getElem (by omega), List.getElem?_eq_getElem (by omega)]
      congr 1
      have e1 : byteAt a j = a[j]'(by omega) := by simp [byteAt, ha, hj2]
      have e2 : byteAt b j = b[j]'(by omega) := by simp [byteAt, hb, hj2]
      rw [← e1, ← e2]
      exact this
    · rw [List.getElem?_eq_none (by omega), List.getElem?_eq_none (by omega)]
theorem mixL_step (a b : List UInt8) (L f t : Nat) (ha : a.length = 512) (hb : b.length = 512) (hL : L ≤ f) (ok : TOk a b L f t) : over (mixL a b L) f ((b.drop f).take (t - f)) = mixL a b t := by
  have k1 := ok.lt
  have k2 := ok.le
  have hf : mixL a b L = mixL a b f := by
    apply List.ext_getElem?
    intro j
    rw [mixL_get _ _ _ _ (by omega), mixL_get _ _ _ _ (by omega)]
    by_cases h1 : j < L
    · rw [if_pos h1, if_pos (by omega)]
    · rw [if_neg h1]
      by_cases h2 : j < f
      · rw [if_pos h2]
        have := ok.same j (by omega) h2
        rw [List.getElem?_eq_getElem (by omega), List.getElem?_eq_getElem (by omega)]
        congr 1
        have e1 : byteAt a j = a[j]'(by omega) := by simp [byteAt, ha, show j < 512 by omega]
        have e2 : byteAt b j = b[j]'(by omega) := by simp [byteAt, hb, show j < 512 by omega]
        rw [← e1, ← e2]
        exact this
      · rw [if_neg h2]
  rw [hf]
  unfold mixL
  rw [over_at _ _ _ _ (by rw [List.length_take]; omega), List.length_take, List.length_drop, List.drop_drop, ← List.append_assoc]
  rw [show min (t - f) (b.length - f) = t - f by omega, show f + (t - f) = t by omega]
  congr 1
  rw [show t = f + (t - f) by omega, List.take_add]
  congr 2
  omega
theorem TOk.symm {a b : List UInt8} {L f t : Nat} (h : TOk a b L f t) : TOk b a L f t := ⟨h.lt, h.le, fun e => h.ne0 e.symm, fun e => h.ne1 e.symm, h.gap, fun j h1 h2 => (h.same j h1 h2).symm⟩
end Go.Proofs.Ytlfpoeimgoikkaa
