/-
  What fits by the table of kinds fits as the document tells it: plain mathematics.
-/
import Derived.Test.YtdfgmdddnehocabGreatDoorTFits2
import Derived.Test.YtdfgmdddnehocabGreatDoorTRefM
namespace Go.Proofs.YtdfgmdddnehocabGreatDoor
open Go.Lib

theorem nmIs_cases (l : List UInt8) : (nmIs l = 1 ∧ l = []) ∨ (nmIs l = 8 ∧ l ≠ [] ∧ nameB l = false) ∨ (nmIs l = 4 ∧ l ≠ [] ∧ nameB l = true ∧ xmlB l = true) ∨ (nmIs l = 2 ∧ l ≠ [] ∧ nameB l = true ∧ xmlB l = false) := by
  unfold nmIs
  by_cases h0 : l = []
  · rw [if_pos h0]; exact Or.inl ⟨rfl, h0⟩
  · rw [if_neg h0]
    cases hn : nameB l with
    | false => exact Or.inr (Or.inl ⟨by simp, h0, rfl⟩)
    | true =>
      cases hx : xmlB l with
      | true => exact Or.inr (Or.inr (Or.inl ⟨by simp, h0, rfl, rfl⟩))
      | false => exact Or.inr (Or.inr (Or.inr ⟨by simp, h0, rfl, rfl⟩))
def vC (l : List UInt8) : Bool := has2 45 45 l || decide (l.getLast? = some 45)
def vI (l : List UInt8) : Bool := has2 63 62 l || blankB (l.take 1)
theorem vlIs_cases (l : List UInt8) : (vlIs l = 1 ∧ l = []) ∨ (vlIs l = 16 ∧ l ≠ [] ∧ ¬ (textsB l = true ∧ l.length ≤ 65536)) ∨ (vlIs l = 2 + (if vC l then 4 else 0) + (if vI l then 8 else 0) ∧ l ≠ [] ∧ textsB l = true ∧ l.length ≤ 65536) := by
  unfold vlIs
  by_cases h0 : l = []
  · rw [if_pos h0]; exact Or.inl ⟨rfl, h0⟩
  · rw [if_neg h0]
    by_cases h1 : 65536 < l.length ∨ textsB l = false
    · rw [if_pos h1]
      refine Or.inr (Or.inl ⟨rfl, h0, fun h => ?_⟩)
      rcases h1 with h1 | h1
      · omega
      · rw [h.1] at h1; cases h1
    · rw [if_neg h1]
      refine Or.inr (Or.inr ⟨?_, h0, ?_, by omega⟩)
      · have e1 : (has2 45 45 l = true ∨ l.getLast? = some 45) ↔ vC l = true := by unfold vC; simp
        have e2 : (has2 63 62 l = true ∨ blankB (l.take 1) = true) ↔ vI l = true := by unfold vI; simp
        simp only [e1, e2]
      · cases ht : textsB l with
        | true => rfl
        | false => exact absurd (Or.inr ht) h1
theorem plIs_cases (t : List Nd) (p : Int) : (plIs t p = 1 ∧ p < 0) ∨ (plIs t p = 2 ∧ 0 ≤ p ∧ knd t p.toNat = 1) ∨ (plIs t p = 4 ∧ 0 ≤ p ∧ knd t p.toNat = 2) ∨ (plIs t p = 8 ∧ 0 ≤ p ∧ knd t p.toNat ≠ 1 ∧ knd t p.toNat ≠ 2) := by
  unfold plIs
  by_cases h0 : p < 0
  · rw [if_pos h0]; exact Or.inl ⟨rfl, h0⟩
  · rw [if_neg h0]
    by_cases h1 : knd t p.toNat = 1
    · rw [if_pos h1]; exact Or.inr (Or.inl ⟨rfl, by omega, h1⟩)
    · rw [if_neg h1]
      by_cases h2 : knd t p.toNat = 2
      · rw [if_pos h2]; exact Or.inr (Or.inr (Or.inl ⟨rfl, by omega, h2⟩))
      · rw [if_neg h2]; exact Or.inr (Or.inr (Or.inr ⟨rfl, by omega, h1, h2⟩))

/-- by fields. -/
theorem lkAnd_iff (x y : Nat × Nat × Nat) : lkAnd x y = x ↔ x.1 &&& y.1 = x.1 ∧ x.2.1 &&& y.2.1 = x.2.1 ∧ x.2.2 &&& y.2.2 = x.2.2 := by
  obtain ⟨a, b, c⟩ := x
  obtain ⟨d, e, f⟩ := y
  simp [lkAnd]
theorem nm_and (l : List UInt8) (m : Nat) (hm : m = 0 ∨ m = 1 ∨ m = 6 ∨ m = 2) : nmIs l &&& m = nmIs l ↔ (m = 1 ∧ l = []) ∨ (m = 6 ∧ nameB l = true ∧ l ≠ []) ∨ (m = 2 ∧ nameB l = true ∧ xmlB l = false ∧ l ≠ []) := by
  rcases nmIs_cases l with ⟨e, h⟩ | ⟨e, h, h1⟩ | ⟨e, h, h1, h2⟩ | ⟨e, h, h1, h2⟩ <;> rcases hm with rfl | rfl | rfl | rfl <;> rw [e] <;> simp_all
theorem vl_and (l : List UInt8) (m : Nat) (hm : m = 0 ∨ m = 1 ∨ m = 15 ∨ m = 14 ∨ m = 11 ∨ m = 7) : vlIs l &&& m = vlIs l ↔ (m = 1 ∧ l = []) ∨ ((m = 15 ∨ m = 11 ∨ m = 7) ∧ l = []) ∨ ((m = 15 ∨ m = 14 ∨ (m = 11 ∧ vC l = false) ∨ (m = 7 ∧ vI l = false)) ∧ l ≠ [] ∧ textsB l = true ∧ l.length ≤ 65536) := by
  rcases vlIs_cases l with ⟨e, h⟩ | ⟨e, h, h1⟩ | ⟨e, h, h1, h2⟩
  · rcases hm with rfl | rfl | rfl | rfl | rfl | rfl <;> rw [e] <;> simp_all
  · rcases hm with rfl | rfl | rfl | rfl | rfl | rfl <;> rw [e] <;> simp_all
  · rw [e]
    cases hC : vC l <;> cases hI : vI l <;> rcases hm with rfl | rfl | rfl | rfl | rfl | rfl <;> simp_all
theorem pl_and (t : List Nd) (p : Int) (m : Nat) (hm : m = 0 ∨ m = 1 ∨ m = 7 ∨ m = 4 ∨ m = 5) : plIs t p &&& m = plIs t p ↔ ((m = 1 ∨ m = 7 ∨ m = 5) ∧ p < 0) ∨ (m = 7 ∧ 0 ≤ p ∧ knd t p.toNat = 1) ∨ ((m = 7 ∨ m = 4 ∨ m = 5) ∧ 0 ≤ p ∧ knd t p.toNat = 2) := by
  rcases plIs_cases t p with ⟨e, h⟩ | ⟨e, h, h1⟩ | ⟨e, h, h1⟩ | ⟨e, h, h1, h2⟩ <;> rcases hm with rfl | rfl | rfl | rfl | rfl <;> rw [e] <;> simp_all <;> omega
theorem name_ne {l : List UInt8} (h : nameB l = true) : l ≠ [] := fun e => by subst e; exact absurd h (by decide)
theorem texts_empty : textsB [] = true := by decide
theorem vC_iff (l : List UInt8) : vC l = false ↔ has2 45 45 l = false ∧ l.getLast? ≠ some 45 := by unfold vC; simp
theorem vI_iff (l : List UInt8) : vI l = false ↔ has2 63 62 l = false ∧ blankB (l.take 1) = false := by unfold vI; simp
theorem len0 (l : List UInt8) : l.length = 0 ↔ l = [] := List.length_eq_zero_iff
theorem ins_of {p : Int} {A B : Prop} (c : p < 0 ∨ A ∨ B) : p < 0 ∨ (0 ≤ p ∧ A) ∨ (0 ≤ p ∧ B) := by
  by_cases hp : p < 0
  · exact Or.inl hp
  · rcases c with c | c | c
    · exact Or.inl c
    · exact Or.inr (Or.inl ⟨by omega, c⟩)
    · exact Or.inr (Or.inr ⟨by omega, c⟩)
theorem of_ins {p : Int} {A B : Prop} (c : p < 0 ∨ (0 ≤ p ∧ A) ∨ (0 ≤ p ∧ B)) : p < 0 ∨ A ∨ B := by
  rcases c with c | c | c
  · exact Or.inl c
  · exact Or.inr (Or.inl c.2)
  · exact Or.inr (Or.inr c.2)
set_option maxHeartbeats 1000000 in
theorem fitsS_iff {t : List Nd} {k : Nat} (o : Ord t k) : fitsS t k = true ↔ FitP t k := by
  unfold fitsS FitP valOk ownLk extraB inside txtBeside besideB
  rw [Bool.and_eq_true, decide_eq_true_eq, lkAnd_iff]
  simp only
  rw [← bl_length (nam t k), ← bl_length (vlu t k), len0, len0]
  have o2 := o.2.1
  generalize bl (nam t k) = Nm
  generalize bl (vlu t k) = Vl
  have hne : nameB Nm = true → Nm ≠ [] := name_ne
  by_cases h1 : knd t k = 1
  · rw [h1, show lkAt 1 = (1, 1, 1) from rfl, nm_and _ 1 (by simp), vl_and _ 1 (by simp), pl_and _ _ 1 (by simp)]
    simp
    constructor
    · rintro ⟨⟨rfl, rfl, h⟩, h0⟩
      exact ⟨⟨texts_empty, by simp⟩, h0, rfl, rfl⟩
    · rintro ⟨⟨_, _⟩, h0, rfl, rfl⟩
      exact ⟨⟨rfl, rfl, by omega⟩, h0⟩
  · by_cases h2 : knd t k = 2
    · rw [h2, show lkAt 2 = (6, 1, 7) from rfl, nm_and _ 6 (by simp), vl_and _ 1 (by simp), pl_and _ _ 7 (by simp)]
      simp
      constructor
      · rintro ⟨⟨a, b⟩, rfl, c⟩
        exact ⟨⟨texts_empty, by simp⟩, of_ins c, a, rfl⟩
      · rintro ⟨⟨_, _⟩, c, a, rfl⟩
        exact ⟨⟨a, hne a⟩, rfl, ins_of c⟩
    · by_cases h3 : knd t k = 3
      · rw [h3, show lkAt 3 = (6, 15, 4) from rfl, nm_and _ 6 (by simp), vl_and _ 15 (by simp), pl_and _ _ 4 (by simp)]
        simp
        constructor
        · rintro ⟨⟨⟨a, b⟩, v, c⟩, d⟩
          refine ⟨?_, c, a, d⟩
          rcases v with rfl | v
          · exact ⟨texts_empty, by simp⟩
          · exact v.2
        · rintro ⟨v, c, a, d⟩
          refine ⟨⟨⟨a, hne a⟩, ?_, c⟩, d⟩
          by_cases e : Vl = []
          · exact Or.inl e
          · exact Or.inr ⟨e, v⟩
      · by_cases h4 : knd t k = 4
        · rw [h4, show lkAt 4 = (1, 14, 5) from rfl, nm_and _ 1 (by simp), vl_and _ 14 (by simp), pl_and _ _ 5 (by simp)]
          simp
          constructor
          · rintro ⟨⟨rfl, v, c⟩, d⟩
            refine ⟨v.2, ?_, rfl, v.1, fun a b c => by rcases d with d | d | d; omega; exact d b; exact d c⟩
            rcases c with c | c
            · exact Or.inl c
            · exact Or.inr c.2
          · rintro ⟨v, c, rfl, e, d⟩
            refine ⟨⟨rfl, ⟨e, v⟩, ?_⟩, ?_⟩
            · by_cases hp : par t k < 0
              · exact Or.inl hp
              · rcases c with c | c
                · exact Or.inl c
                · exact Or.inr ⟨by omega, c⟩
            · by_cases x : k = 0
              · exact Or.inl x
              · by_cases y : par t (k - 1) = par t k
                · exact Or.inr (Or.inr (d (by omega) y))
                · exact Or.inr (Or.inl y)
        · by_cases h5 : knd t k = 5
          · rw [h5, show lkAt 5 = (1, 11, 7) from rfl, nm_and _ 1 (by simp), vl_and _ 11 (by simp), pl_and _ _ 7 (by simp)]
            simp
            constructor
            · rintro ⟨rfl, v, c⟩
              rcases v with rfl | ⟨v, e, u⟩
              · exact ⟨⟨texts_empty, by simp⟩, of_ins c, rfl, rfl, by simp⟩
              · exact ⟨u, of_ins c, rfl, ((vC_iff _).1 v).1, ((vC_iff _).1 v).2⟩
            · rintro ⟨u, c, rfl, v⟩
              refine ⟨rfl, ?_, ins_of c⟩
              by_cases e : Vl = []
              · exact Or.inl e
              · exact Or.inr ⟨(vC_iff _).2 v, e, u⟩
          · by_cases h6 : knd t k = 6
            · rw [h6, show lkAt 6 = (2, 7, 7) from rfl, nm_and _ 2 (by simp), vl_and _ 7 (by simp), pl_and _ _ 7 (by simp)]
              simp
              constructor
              · rintro ⟨⟨a, b, _⟩, v, c⟩
                rcases v with rfl | ⟨v, e, u⟩
                · exact ⟨⟨texts_empty, by simp⟩, of_ins c, ⟨a, b⟩, rfl, Or.inl rfl⟩
                · exact ⟨u, of_ins c, ⟨a, b⟩, ((vI_iff _).1 v).1, Or.inr ((vI_iff _).1 v).2⟩
              · rintro ⟨u, c, ⟨a, b⟩, v, d⟩
                refine ⟨⟨a, b, hne a⟩, ?_, ins_of c⟩
                by_cases e : Vl = []
                · exact Or.inl e
                · exact Or.inr ⟨(vI_iff _).2 ⟨v, d.resolve_left e⟩, e, u⟩
            · have hz : lkAt (knd t k) = (0, 0, 0) := by
                unfold lkAt
                by_cases h7 : knd t k < 7
                · have : knd t k = 0 := by omega
                  rw [this]; rfl
                · rw [List.getD_eq_getElem?_getD, List.getElem?_eq_none (by show 7 ≤ knd t k; omega)]
                  rfl
              rw [hz, nm_and _ 0 (by simp)]
              simp [h1, h2, h3, h4, h5, h6]
end Go.Proofs.YtdfgmdddnehocabGreatDoor
