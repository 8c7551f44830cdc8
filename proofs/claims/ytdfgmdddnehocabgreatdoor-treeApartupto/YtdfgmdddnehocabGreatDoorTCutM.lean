/-
  Parts of a row: plain mathematics.
-/
import Derived.Test.YtdfgmdddnehocabGreatDoorTGoM
set_option linter.unusedVariables false
namespace Go.Proofs.YtdfgmdddnehocabGreatDoor
open Go.Lib

def partNd (t : List Nd) (k j : Nat) : Nd := ⟨knd t (k + j), nam t (k + j), vlu t (k + j), if j = 0 then -1 else par t (k + j) - (k : Int)⟩
/-- A node's subtree as a row of its own. -/
def partL (t : List Nd) (k : Nat) : List Nd := (List.range (endOf t k - k)).map (partNd t k)
theorem part_len (t : List Nd) (k : Nat) : (partL t k).length = endOf t k - k := by simp [partL]
theorem part_nth {t : List Nd} {k j : Nat} (h : j < endOf t k - k) : nth (partL t k) j = partNd t k j := by
  unfold nth partL
  simp [h]
theorem part_knd {t : List Nd} {k j : Nat} (h : j < endOf t k - k) : knd (partL t k) j = knd t (k + j) := by unfold knd; rw [part_nth h]; rfl
theorem part_nam {t : List Nd} {k j : Nat} (h : j < endOf t k - k) : nam (partL t k) j = nam t (k + j) := by unfold nam; rw [part_nth h]; rfl
theorem part_vlu {t : List Nd} {k j : Nat} (h : j < endOf t k - k) : vlu (partL t k) j = vlu t (k + j) := by unfold vlu; rw [part_nth h]; rfl
theorem part_par {t : List Nd} {k j : Nat} (h : j < endOf t k - k) : par (partL t k) j = if j = 0 then -1 else par t (k + j) - (k : Int) := by unfold par; rw [part_nth h]; rfl

section
variable {t : List Nd} {k : Nat}
theorem part_in (hk : k < t.length) {j : Nat} (h : j < endOf t k - k) (h0 : j ≠ 0) : (k : Int) ≤ par t (k + j) ∧ k + j < t.length := by
  have E := endOf_is (t := t) (k := (k : Int)) (by omega) (by omega)
  have := E.le
  exact ⟨E.all (k + j) (by omega) (by omega), by omega⟩
theorem part_ord (O : Ords t) (hk : k < t.length) {j : Nat} (h : j < endOf t k - k) : Ord (partL t k) j := by
  by_cases h0 : j = 0
  · subst h0
    have hp : par (partL t k) 0 = -1 := by rw [part_par h]; rfl
    exact ⟨by rw [hp]; decide, by rw [hp]; decide, fun i hi => by omega⟩
  · obtain ⟨h1, h2⟩ := part_in hk h h0
    have o := O (k + j) h2
    have hp : par (partL t k) j = par t (k + j) - (k : Int) := by rw [part_par h, if_neg h0]
    have o1 := o.2.1
    refine ⟨by omega, by omega, fun i hi hlt => ?_⟩
    rw [hp] at hlt ⊢
    have hi0 : i ≠ 0 := by
      intro e; subst e
      omega
    rw [part_par (by omega), if_neg hi0]
    have := o.2.2 (k + i) (by omega) (by omega)
    omega
theorem part_up {j : Nat} (hk : k < t.length) (O : Ords t) (h : j < endOf t k - k) (h0 : j ≠ 0) : knd (partL t k) (par (partL t k) j).toNat = knd t (par t (k + j)).toNat ∧ 0 ≤ par (partL t k) j ∧ 0 ≤ par t (k + j) := by
  obtain ⟨h1, h2⟩ := part_in hk h h0
  have o1 := (O (k + j) h2).2.1
  have hp : par (partL t k) j = par t (k + j) - (k : Int) := by rw [part_par h, if_neg h0]
  rw [part_knd (by omega), hp, show k + (par t (k + j) - (k : Int)).toNat = (par t (k + j)).toNat by omega]
  exact ⟨rfl, by omega, by omega⟩
theorem part_inside (hk : k < t.length) (O : Ords t) {j : Nat} (h : j < endOf t k - k) (hi : inside t (k + j)) : inside (partL t k) j := by
  by_cases h0 : j = 0
  · subst h0
    exact Or.inl (by rw [part_par h, if_pos rfl]; decide)
  · obtain ⟨e, g1, g2⟩ := part_up hk O h h0
    rcases hi with g | g
    · omega
    · exact Or.inr (by rw [e]; exact g)
theorem part_fit (G : Good t) (hk : k < t.length) (h3 : knd t k ≠ 3) {j : Nat} (h : j < endOf t k - k) : Fit (partL t k) j := by
  have O := Good.ords G
  have E := endOf_is (t := t) (k := (k : Int)) (by omega) (by omega)
  have hle := E.le
  obtain ⟨o, v, f⟩ := G (k + j) (by omega)
  have hv : vlu (partL t k) j = vlu t (k + j) := part_vlu h
  have hn : nam (partL t k) j = nam t (k + j) := part_nam h
  have hkk : knd (partL t k) j = knd t (k + j) := part_knd h
  refine ⟨⟨by rw [hv]; exact v.1, by rw [hv]; exact v.2⟩, ?_⟩
  rcases f with f | f | f | f | f | f
  · exact Or.inl ⟨by rw [hkk]; exact f.1, by omega, by rw [hn]; exact f.2.2.1, by rw [hv]; exact f.2.2.2⟩
  · exact Or.inr (Or.inl ⟨by rw [hkk]; exact f.1, part_inside hk O h f.2.1, by rw [hn]; exact f.2.2.1, by rw [hv]; exact f.2.2.2⟩)
  · have h0 : j ≠ 0 := by
      intro e; subst e
      exact h3 f.1
    obtain ⟨e, g1, g2⟩ := part_up hk O h h0
    have hp : par (partL t k) j = par t (k + j) - (k : Int) := by rw [part_par h, if_neg h0]
    refine Or.inr (Or.inr (Or.inl ⟨by rw [hkk]; exact f.1, ⟨g1, by rw [e]; exact f.2.1.2⟩, by rw [hn]; exact f.2.2.1, fun i hi hlt => ?_⟩))
    rw [hp] at hlt ⊢
    have hi0 : i ≠ 0 := by
      intro e; subst e
      omega
    obtain ⟨q1, q2, q3⟩ := f.2.2.2 (k + i) (by omega) (by omega)
    rw [part_par (by omega), if_neg hi0, part_knd (by omega), part_nam (by omega), hn]
    exact ⟨by omega, q2, q3⟩
  · refine Or.inr (Or.inr (Or.inr (Or.inl ⟨by rw [hkk]; exact f.1, ?_, by rw [hn]; exact f.2.2.1, by rw [hv]; exact f.2.2.2.1, ?_⟩)))
    · by_cases h0 : j = 0
      · subst h0
        exact Or.inl (by rw [part_par h, if_pos rfl]; decide)
      · obtain ⟨e, g1, g2⟩ := part_up hk O h h0
        rcases f.2.1 with g | g
        · omega
        · exact Or.inr (by rw [e]; exact g)
    · rintro ⟨b1, b2, b3⟩
      have h0 : j ≠ 0 := by omega
      apply f.2.2.2.2
      rw [part_knd (by omega)] at b3
      rw [part_par (by omega), part_par h, if_neg h0] at b2
      by_cases e1 : j - 1 = 0
      · rw [if_pos e1] at b2
        have := (part_in hk h h0).1
        omega
      · rw [if_neg e1] at b2
        show 0 < k + j ∧ par t (k + j - 1) = par t (k + j) ∧ knd t (k + j - 1) = 4
        rw [show k + j - 1 = k + (j - 1) by omega]
        exact ⟨by omega, by omega, b3⟩
  · exact Or.inr (Or.inr (Or.inr (Or.inr (Or.inl ⟨by rw [hkk]; exact f.1, part_inside hk O h f.2.1, by rw [hn]; exact f.2.2.1, by rw [hv]; exact f.2.2.2.1, by rw [hv]; exact f.2.2.2.2⟩))))
  · exact Or.inr (Or.inr (Or.inr (Or.inr (Or.inr ⟨by rw [hkk]; exact f.1, part_inside hk O h f.2.1, by rw [hn]; exact f.2.2.1, by rw [hv]; exact f.2.2.2.1, by rw [hv]; exact f.2.2.2.2⟩))))
theorem part_good (G : Good t) (hk : k < t.length) (h3 : knd t k ≠ 3) : Good (partL t k) := fun j hj => by
  rw [part_len] at hj
  exact ⟨part_ord (Good.ords G) hk hj, part_fit G hk h3 hj⟩
theorem part_dep (O : Ords t) (hk : k < t.length) : ∀ j, j < endOf t k - k → dep (partL t k) j + depI t (par t k) = dep t (k + j) := by
  intro j
  induction j using Nat.strongRecOn with
  | _ j ih =>
    intro h
    by_cases h0 : j = 0
    · subst h0
      rw [dep_eq (part_ord O hk h), part_knd h, show par (partL t k) 0 = -1 by rw [part_par h]; rfl, depI_neg _ _ (by decide), Nat.add_zero]
      exact (dep_eq (O (k + 0) (by omega))).symm
    · obtain ⟨h1, h2⟩ := part_in hk h h0
      have o := O (k + j) h2
      have o1 := o.2.1
      obtain ⟨p, hp⟩ : ∃ p : Nat, par t (k + j) = (k : Int) + (p : Int) := ⟨(par t (k + j) - (k : Int)).toNat, by omega⟩
      rw [dep_eq (part_ord O hk h), part_knd h, part_par h, if_neg h0, hp, show (k : Int) + (p : Int) - (k : Int) = (p : Int) by omega, depI_nat, dep_eq o, hp, show (k : Int) + (p : Int) = ((k + p : Nat) : Int) by omega, depI_nat]
      have := ih p (by omega) (by omega)
      omega
theorem part_deepest (O : Ords t) (hk : k < t.length) (m : Nat) (hd : deepest t t.length ≤ m) : deepest (partL t k) (partL t k).length ≤ m := by
  have E := endOf_is (t := t) (k := (k : Int)) (by omega) (by omega)
  have hle := E.le
  refine (deepest_le m _).2 fun j hj hkj => ?_
  rw [part_len] at hj
  have h1 := part_dep O hk j hj
  have h2 := (deepest_le m _).1 hd (k + j) (by omega) (by rw [← part_knd hj]; exact hkj)
  omega
end
/-- the part of a right tree at a node that is neither its root nor an attribute is a right fragment. -/
theorem part_frag {t : List Nd} (G : Good t) (hl : t.length ≤ 16384) (hd : deepest t t.length ≤ 60) {k : Nat} (hk : k < t.length) (h3 : knd t k ≠ 3) (h1 : knd t k ≠ 1) :
    judged (partL t k) (decide (knd (partL t k) 0 ≠ 1)) = 0 := by
  have E := endOf_is (t := t) (k := (k : Int)) (by omega) (by omega)
  have hle := E.le
  have hgt := E.gt
  have hlen := part_len t k
  have := part_deepest (Good.ords G) hk 60 hd
  unfold judged
  rw [if_neg (by omega), (goodB_iff _ _).2 (part_good G hk h3), part_knd (by omega), Nat.add_zero, decide_eq_true h1, if_neg (by decide), if_neg (by omega)]

/-! ### what is below a node: its attributes' and its children's stretches -/
/-- the child, or attribute, at a place, or the end. -/
abbrev Cut (t : List Nd) (k i : Nat) : Prop := k < i ∧ i ≤ endOf t k ∧ (i < endOf t k → par t i = (k : Int))
theorem cut_first {t : List Nd} (O : Ords t) {k : Nat} (hk : k < t.length) : Cut t k (k + 1) := by
  have E := endOf_is (t := t) (k := (k : Int)) (by omega) (by omega)
  have hgt := E.gt
  have hle := E.le
  refine ⟨by omega, by omega, fun h => ?_⟩
  have h1 := E.all (k + 1) (by omega) h
  have h2 := (O (k + 1) (by omega)).2.1
  omega
theorem end_in {t : List Nd} {k c : Nat} (hk : k < t.length) (hc : k < c) (he : c < endOf t k) : endOf t c ≤ endOf t k ∧ c < endOf t c := by
  have E := endOf_is (t := t) (k := (k : Int)) (by omega) (by omega)
  have hle := E.le
  have F := endOf_is (t := t) (k := (c : Int)) (by omega) (by omega)
  have hlf := F.le
  have hgf := F.gt
  refine ⟨?_, by omega⟩
  rcases Nat.lt_or_ge (endOf t k) (endOf t c) with x | x
  · have h1 := E.stop (by omega)
    have h2 := F.all (endOf t k) (by omega) x
    omega
  · exact x
theorem cut_next {t : List Nd} (O : Ords t) {k i : Nat} (hk : k < t.length) (h : Cut t k i) (hi : i < endOf t k) : Cut t k (endOf t i) := by
  obtain ⟨h1, h2⟩ := end_in hk h.1 hi
  have E := endOf_is (t := t) (k := (k : Int)) (by omega) (by omega)
  have hle := E.le
  have F := endOf_is (t := t) (k := (i : Int)) (by omega) (by omega)
  refine ⟨by have := h.1; omega, h1, fun hlt => ?_⟩
  have g1 := E.all (endOf t i) (by have := h.1; omega) hlt
  have g2 := F.stop (by omega)
  have hp := h.2.2 hi
  by_cases e : par t (endOf t i) = (k : Int)
  · exact e
  · have := (O (endOf t i) (by omega)).2.2 i (by omega) (by omega)
    omega
end Go.Proofs.YtdfgmdddnehocabGreatDoor
