/-
  Rows of nodes as the document's own answer looks at them: plain mathematics.
-/
import Derived.Test.YtdfgmdddnehocabGreatDoorTAx
set_option linter.unusedVariables false
namespace Go.Proofs.YtdfgmdddnehocabGreatDoor
open Go.Lib

/-- The last sibling ahead of a node, or none. -/
structure SibIs (t : List Nd) (i : Nat) (s : Int) : Prop where
  yes : 0 ≤ s → par t i < s ∧ s < (i : Int) ∧ par t s.toNat = par t i ∧ knd t s.toNat ≠ 3
  no : ∀ j : Nat, s < (j : Int) → par t i < (j : Int) → j < i → ¬ (par t j = par t i ∧ knd t j ≠ 3)
theorem sib_iff {t : List Nd} {i : Nat} {s : Int} (h : Upto t i) (o : Ord t i) (S : SibIs t i s) : (s < 0 ∨ knd t s.toNat ≠ 4) ↔ ¬ txtBeside t i := by
  have hsb : txtBeside t i → par t i < ((i - 1 : Nat) : Int) := fun b => by
    have := (h (i - 1) (by have := b.1; omega)).1.2.1
    rw [b.2.1] at this
    exact this
  constructor
  · intro hs b
    have h1 := hsb b
    have hb := b.1
    by_cases c : s < ((i - 1 : Nat) : Int)
    · exact S.no (i - 1) c h1 (by omega) ⟨b.2.1, by rw [b.2.2]; decide⟩
    · have hy := S.yes (by omega)
      have e : s.toNat = i - 1 := by omega
      rw [e] at hs
      have := b.2.2
      omega
  · intro nb
    by_cases c : s < 0
    · exact Or.inl c
    · right
      intro h4
      obtain ⟨y1, y2, y3, y4⟩ := S.yes (by omega)
      have := sib_text (s := s.toNat) h o (by omega) (by omega) y3 h4 (fun j hj hi => S.no j (by omega) (by omega) hi)
      apply nb
      refine ⟨by omega, ?_, ?_⟩
      · rw [← this]; exact y3
      · rw [← this]; exact h4
/-- The kind of a node's parent; none: nought. -/
def upK (t : List Nd) (i : Nat) : Nat := if par t i < 0 then 0 else knd t (par t i).toNat
theorem fit_kind {t : List Nd} {i : Nat} (f : Fit t i) : 1 ≤ knd t i ∧ knd t i ≤ 6 := by
  rcases f.2 with f | f | f | f | f | f <;> have := f.1 <;> omega
theorem upK_zero {t : List Nd} {i : Nat} (h : Upto t i) (o : Ord t i) : upK t i = 0 ↔ par t i < 0 := by
  unfold upK
  by_cases c : par t i < 0
  · rw [if_pos c]; simp [c]
  · rw [if_neg c]
    have := (fit_kind (h (par t i).toNat (by have := o.2.1; omega)).2).1
    constructor
    · intro e; omega
    · intro e; exact absurd e c
theorem upK_some {t : List Nd} {i k : Nat} (hk : k ≠ 0) : upK t i = k ↔ 0 ≤ par t i ∧ knd t (par t i).toNat = k := by
  unfold upK
  by_cases c : par t i < 0
  · rw [if_pos c]
    constructor
    · intro e; exact absurd e.symm hk
    · intro e; omega
  · rw [if_neg c]
    constructor
    · intro e; exact ⟨by omega, e⟩
    · intro e; exact e.2
theorem inside_iff {t : List Nd} {i : Nat} (h : Upto t i) (o : Ord t i) : (upK t i = 0 ∨ upK t i = 2 ∨ upK t i = 1) ↔ inside t i := by
  rw [upK_zero h o, upK_some (by decide), upK_some (by decide)]
  constructor
  · rintro (e | e | e)
    · exact Or.inl e
    · exact Or.inr (Or.inr e.2)
    · exact Or.inr (Or.inl e.2)
  · intro e
    by_cases c : par t i < 0
    · exact Or.inl c
    · rcases e with e | e | e
      · exact Or.inl e
      · exact Or.inr (Or.inr ⟨by omega, e⟩)
      · exact Or.inr (Or.inl ⟨by omega, e⟩)
end Go.Proofs.YtdfgmdddnehocabGreatDoor
