/-
  Of a right row: what lies below a node is its attributes' and its children's parts: plain mathematics.
-/
import Derived.Test.YtdfgmdddnehocabDoorTPart
import Derived.Test.YtdfgmdddnehocabDoorTKids
import Derived.Test.YtdfgmdddnehocabDoorTText
import Derived.Test.YtdfgmdddnehocabDoorTParts
namespace Go.Proofs.YtdfgmdddnehocabDoor
open Go.Lib

/-! ### children stand one behind the other -/
theorem child_next {t : List Nd} (O : Ords t) {k x : Nat} (hk : k < t.length) (hkx : k < x) (hxE : x < endOf t k) (hp : par t x = (k : Int)) :
    x < endOf t x ∧ endOf t x ≤ endOf t k ∧ (endOf t x = endOf t k ∨ par t (endOf t x) = (k : Int)) ∧ (∀ i, x < i → i < endOf t x → par t i ≠ (k : Int)) := by
  have Ek := endOf_is (t := t) (k := (k : Int)) (by omega) (by omega)
  have hxl : x < t.length := by have := Ek.le; omega
  have Ex := endOf_is (t := t) (k := (x : Int)) (by omega) (by omega)
  have h1 := Ex.gt
  have h2 := Ek.le
  have h3 := Ex.le
  have hle : endOf t x ≤ endOf t k := by
    rcases Nat.lt_or_ge (endOf t k) (endOf t x) with h | h
    · exfalso
      have h5 := Ek.stop (by omega)
      have h6 := Ex.all (endOf t k) (by omega) h
      omega
    · exact h
  refine ⟨by omega, hle, ?_, fun i hi hie e => ?_⟩
  · rcases Nat.lt_or_ge (endOf t x) (endOf t k) with h | h
    · right
      have h5 := Ex.stop (by omega)
      have h6 := Ek.all (endOf t x) (by omega) h
      have h7 := (O (endOf t x) (by omega)).2.2 x (by omega) h5
      omega
    · left; omega
  · have := Ex.all i (by omega) hie
    omega
/-- A node without children. -/
theorem end_leaf {t : List Nd} (G : Good t) {x : Nat} (hx : x < t.length) (h1 : knd t x ≠ 1) (h2 : knd t x ≠ 2) : endOf t x = x + 1 := by
  have E := endOf_is (t := t) (k := (x : Int)) (by omega) (by omega)
  have hg := E.gt
  have hl := E.le
  rcases Nat.lt_or_ge (x + 1) (endOf t x) with h | h
  · exfalso
    have h5 := E.all (x + 1) (by omega) h
    have o := (G (x + 1) (by omega)).1
    have hp : par t (x + 1) = (x : Int) := by have := o.2.1; omega
    have := par_kind o (G (x + 1) (by omega)).2 (by omega)
    rw [hp, Int.toNat_natCast] at this
    rcases this with e | e
    · exact h1 e
    · exact h2 e
  · omega
/-! ### attributes -/
theorem att_iff {t : List Nd} (G : Good t) {k i : Nat} (hk : k < t.length) (hi : i < t.length) (hp : par t i = (k : Int)) (h3 : knd t i = 3) : k < i ∧ i < attrEnds t k := by
  have e := attrs_eq G hk (attrEnds_is hk)
  have hm : i ∈ withTo t k true t.length := by
    unfold withTo
    rw [List.mem_filter]
    exact ⟨List.mem_range.2 hi, by simp [hp, h3]⟩
  rw [e, List.mem_range'_1] at hm
  have := (attrEnds_is hk).gt
  omega
theorem att_end {t : List Nd} (G : Good t) {k : Nat} (hk : k < t.length) : attrEnds t k ≤ endOf t k ∧ (attrEnds t k = endOf t k ∨ par t (attrEnds t k) = (k : Int)) := by
  have A := attrEnds_is hk
  have E := endOf_is (t := t) (k := (k : Int)) (by omega) (by omega)
  have h1 := E.le
  have h2 := A.gt
  have h0 := E.gt
  have hle : attrEnds t k ≤ endOf t k := by
    rcases Nat.lt_or_ge (endOf t k) (attrEnds t k) with h | h
    · have h5 := E.stop (by have := A.le; omega)
      have h6 := (A.all (endOf t k) (by omega) h).1
      omega
    · exact h
  refine ⟨hle, ?_⟩
  rcases Nat.lt_or_ge (attrEnds t k) (endOf t k) with h | h
  · right
    have o := (G (attrEnds t k) (by omega)).1
    have h5 := E.all (attrEnds t k) (by omega) h
    rcases Nat.lt_or_ge (k + 1) (attrEnds t k) with h6 | h6
    · have h7 := A.all (attrEnds t k - 1) (by omega) (by omega)
      have o1 := o.2.1
      by_cases e : par t (attrEnds t k) = (k : Int)
      · exact e
      · exfalso
        by_cases e2 : par t (attrEnds t k) < ((attrEnds t k - 1 : Nat) : Int)
        · have := o.2.2 (attrEnds t k - 1) (by omega) e2
          omega
        · have e3 : par t (attrEnds t k) = ((attrEnds t k - 1 : Nat) : Int) := by omega
          have := par_kind o (G (attrEnds t k) (by omega)).2 (by omega)
          rw [e3, Int.toNat_natCast, h7.2] at this
          omega
    · have e : attrEnds t k = k + 1 := by omega
      rw [e] at h5 o ⊢
      have := o.2.1
      omega
  · left; omega

theorem range_cut (a b c : Nat) (h1 : a ≤ b) (h2 : b ≤ c) : List.range' a (c - a) = List.range' a (b - a) ++ List.range' b (c - b) := by
  rw [show c - a = (b - a) + (c - b) by omega, ← List.range'_append_1, show a + (b - a) = b by omega]
theorem filter_none {p : Nat → Bool} {l : List Nat} (h : ∀ x ∈ l, p x = false) : l.filter p = [] := by
  rw [List.filter_eq_nil_iff]
  intro x hx
  rw [h x hx]
  exact Bool.false_ne_true
theorem att_kids {t : List Nd} {k : Nat} (hk : k < t.length) : (List.range' (k + 1) (attrEnds t k - (k + 1))).filter (isKid t k) = [] := filter_none fun x hx => by
  have h1 := List.mem_range'_1.1 hx
  have h2 := (attrEnds_is hk).gt
  have h3 := ((attrEnds_is hk).all x (by omega) (by omega)).2
  simp [isKid, nat3, h3]
theorem no_att {t : List Nd} (G : Good t) {k : Nat} (hk : k < t.length) : ∀ j, k < j → j < endOf t k → par t j = (k : Int) → attrEnds t k ≤ j → knd t j ≠ 3 := fun j h1 h2 h3 h4 h5 => by
  have hl := (endOf_is (t := t) (k := (k : Int)) (by omega) (by omega)).le
  have := att_iff G hk (by omega) h3 h5
  omega

/-! ### what lies right below a node -/
def chL (t : List Nd) (k y : Nat) : List Nat := (List.range' y (endOf t k - y)).filter (fun j => decide (par t j = (k : Int)))
theorem ch_end {t : List Nd} {k y : Nat} (h : endOf t k ≤ y) : chL t k y = [] := by
  unfold chL
  rw [show endOf t k - y = 0 by omega]
  rfl
theorem ch_step {t : List Nd} (O : Ords t) {k y : Nat} (hk : k < t.length) (hc : Cut t k y) (hy : y < endOf t k) : chL t k y = y :: chL t k (endOf t y) := by
  obtain ⟨h1, h2, h3⟩ := hc
  obtain ⟨g1, g2, g3, g4⟩ := child_next O hk h1 hy (h3 hy)
  unfold chL
  rw [range_cut y (endOf t y) (endOf t k) (by omega) g2, List.filter_append, show endOf t y - y = (endOf t y - (y + 1)) + 1 by omega, List.range'_succ, List.filter_cons, if_pos (by simpa using h3 hy),
    filter_none (l := List.range' (y + 1) (endOf t y - (y + 1))) (fun x hx => by
      have := List.mem_range'_1.1 hx
      simpa using g4 x (by omega) (by omega))]
  rfl
theorem below_list {t : List Nd} (G : Good t) {k : Nat} (hk : k < t.length) : attrsL k (attrEnds t k) ++ kidsL t k = chL t k (k + 1) := by
  obtain ⟨q1, q2⟩ := att_end G hk
  have hgt := (attrEnds_is hk).gt
  unfold chL kidsL kidsTo attrsL
  rw [show ((k : Int) + 1).toNat = k + 1 by omega, range_cut (k + 1) (attrEnds t k) (endOf t k) (by omega) q1, List.filter_append, List.filter_append, att_kids hk, List.nil_append]
  congr 1
  · symm
    rw [List.filter_eq_self]
    intro x hx
    have := List.mem_range'_1.1 hx
    simpa using ((attrEnds_is hk).all x (by omega) (by omega)).1
  · refine List.filter_congr fun x hx => ?_
    have hx := List.mem_range'_1.1 hx
    have hn := no_att G hk x (by omega) (by omega)
    unfold isKid
    by_cases e : par t x = (k : Int)
    · have := hn e (by omega)
      simp [e, this]
    · simp [e]
def textN (t : List Nd) (c : Nat) : List UInt8 := if knd t c = 1 ∨ knd t c = 2 then ((textsL t c (endOf t c)).map bl).flatten else bl (vlu t c)
def textC (t : List Nd) (c : Nat) : List UInt8 := if knd t c = 4 ∨ knd t c = 2 then textN t c else []
theorem texts_cut {t : List Nd} {a b c : Nat} (h1 : a ≤ b) (h2 : b ≤ c) : textsL t a c = textsL t a b ++ textsL t b c := by
  unfold textsL
  rw [range_cut a b c h1 h2, List.filter_append, List.map_append]
theorem textsL_one {t : List Nd} {a : Nat} : textsL t a (a + 1) = if knd t a = 4 then [vlu t a] else [] := by
  rw [textsL_step (Nat.le_refl a)]
  unfold textsL
  rw [Nat.sub_self]
  rfl
theorem textC_eq {t : List Nd} (G : Good t) {c : Nat} (hc : c < t.length) (h0 : 0 ≤ par t c) : textC t c = ((textsL t c (endOf t c)).map bl).flatten := by
  unfold textC textN
  by_cases h2 : knd t c = 2
  · rw [if_pos (Or.inr h2), if_pos (Or.inr h2)]
  · have h1 : knd t c ≠ 1 := fun e => by
      have o := (G c hc).1.2.1
      have := (G c hc).2.2
      rcases this with f | f | f | f | f | f
      all_goals omega
    rw [end_leaf G hc h1 h2, textsL_one]
    by_cases h4 : knd t c = 4
    · rw [if_pos (Or.inl h4), if_neg (by omega), if_pos h4]
      simp
    · rw [if_neg (by omega), if_neg h4]
      rfl
theorem ch_sum {t : List Nd} (G : Good t) {k : Nat} (hk : k < t.length) : ∀ m y, endOf t k - y ≤ m → Cut t k y →
    ((chL t k y).map fun (c : Nat) => endOf t c - c).sum = endOf t k - y ∧ ((chL t k y).map (textC t)).flatten = ((textsL t y (endOf t k)).map bl).flatten
  | m, y, hm, hc => by
    have E := endOf_is (t := t) (k := (k : Int)) (by omega) (by omega)
    rcases Nat.lt_or_ge y (endOf t k) with hy | hy
    · match m with
      | 0 => omega
      | m + 1 =>
        obtain ⟨e1, e2⟩ := end_in hk hc.1 hy
        obtain ⟨i1, i2⟩ := ch_sum G hk m (endOf t y) (by omega) (cut_next (Good.ords G) hk hc hy)
        rw [ch_step (Good.ords G) hk hc hy, List.map_cons, List.map_cons, List.sum_cons, List.flatten_cons, i1, i2, textC_eq G (by have := E.le; omega) (by rw [hc.2.2 hy]; omega), texts_cut (t := t) (a := y) (b := endOf t y) (c := endOf t k) (by omega) e1, List.map_append, List.flatten_append]
        exact ⟨by omega, rfl⟩
    · rw [ch_end hy]
      unfold textsL
      rw [show endOf t k - y = 0 by omega]
      exact ⟨rfl, rfl⟩
theorem ch_all {t : List Nd} (G : Good t) {k : Nat} (hk : k < t.length) :
    1 + ((chL t k (k + 1)).map fun (c : Nat) => endOf t c - c).sum = endOf t k - k ∧ ((knd t k = 1 ∨ knd t k = 2) → ((chL t k (k + 1)).map (textC t)).flatten = textN t k) ∧ (¬ (knd t k = 1 ∨ knd t k = 2) → chL t k (k + 1) = []) := by
  have E := endOf_is (t := t) (k := (k : Int)) (by omega) (by omega)
  have hg := E.gt
  obtain ⟨h1, h2⟩ := ch_sum G hk _ (k + 1) (Nat.le_refl _) (cut_first (Good.ords G) hk)
  refine ⟨by omega, fun h => ?_, fun h => ch_end (by rw [end_leaf G hk (fun e => h (Or.inl e)) (fun e => h (Or.inr e))]; exact Nat.le_refl _)⟩
  unfold textN
  rw [if_pos h, h2, texts_cut (t := t) (a := k) (b := k + 1) (c := endOf t k) (by omega) (by omega), textsL_one, if_neg (by omega)]
  rfl
theorem ch_mem {t : List Nd} {k : Nat} (hk : k < t.length) {c : Nat} (h : c ∈ chL t k (k + 1)) : k < c ∧ c < endOf t k ∧ c < t.length ∧ par t c = (k : Int) := by
  have E := endOf_is (t := t) (k := (k : Int)) (by omega) (by omega)
  have hle := E.le
  unfold chL at h
  rw [List.mem_filter] at h
  have h1 := List.mem_range'_1.1 h.1
  have h2 : par t c = (k : Int) := by simpa using h.2
  exact ⟨by omega, by omega, by omega, h2⟩
/-! ### a part -/
theorem part_end {t : List Nd} {k : Nat} (hk : k < t.length) : endOf (partL t k) ((0 : Nat) : Int) = endOf t k - k := by
  have E := endOf_is (t := t) (k := (k : Int)) (by omega) (by omega)
  have hg := E.gt
  have hl := part_len t k
  have F := endOf_is (t := partL t k) (k := ((0 : Nat) : Int)) (by omega) (by omega)
  refine F.uniq ⟨by omega, by omega, fun j h1 h2 => ?_, fun h => by omega⟩
  rw [part_par h2, if_neg (by omega)]
  have := (part_in hk h2 (by omega)).1
  omega
theorem part_text {t : List Nd} {k : Nat} (hk : k < t.length) : textN (partL t k) 0 = textN t k := by
  have E := endOf_is (t := t) (k := (k : Int)) (by omega) (by omega)
  have hg := E.gt
  unfold textN
  rw [part_end hk, part_knd (j := 0) (by omega), part_vlu (j := 0) (by omega), Nat.add_zero]
  have : textsL (partL t k) 0 (endOf t k - k) = textsL t k (endOf t k) := by
    have key : ∀ n, n ≤ endOf t k - k → textsL (partL t k) 0 n = textsL t k (k + n) := by
      intro n
      induction n with
      | zero =>
        intro _
        unfold textsL
        rw [Nat.add_zero, Nat.sub_self, Nat.sub_self]
        rfl
      | succ n ih =>
        intro hn
        rw [textsL_step (Nat.zero_le n), ih (by omega), ← Nat.add_assoc, textsL_step (Nat.le_add_right k n), part_knd (by omega), part_vlu (by omega)]
    rw [key _ (Nat.le_refl _), show k + (endOf t k - k) = endOf t k by omega]
  rw [this]
theorem part_sane {t : List Nd} (hS : Sane t) {k : Nat} (hk : k < t.length) : Sane (partL t k) := fun j hj => by
  rw [part_len] at hj
  have E := endOf_is (t := t) (k := (k : Int)) (by omega) (by omega)
  have hle := E.le
  have h := hS (k + j) (by omega)
  rw [part_knd hj, part_nam hj, part_vlu hj, part_par hj]
  refine ⟨h.1, ?_, h.2.2⟩
  by_cases h0 : j = 0
  · rw [if_pos h0]; omega
  · rw [if_neg h0]
    have := (part_in hk hj h0).1
    omega
end Go.Proofs.YtdfgmdddnehocabDoor
