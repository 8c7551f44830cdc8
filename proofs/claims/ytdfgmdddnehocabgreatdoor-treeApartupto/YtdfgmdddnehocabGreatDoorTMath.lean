/-
  Rows of nodes: what it is to be in order, to fit, how deep a node is: plain mathematics, no program.
-/
import Derived.Test.YtdfgmdddnehocabGreatDoorCMath
import Derived.Test.YtdfgmdddnehocabGreatDoorMath
set_option linter.unusedVariables false
namespace Go.Proofs.YtdfgmdddnehocabGreatDoor
open Go.Lib

/-- A node. -/
structure Nd where
  kind : Nat
  name : ByteArray
  value : ByteArray
  parent : Int
def nd0 : Nd := ⟨0, ByteArray.empty, ByteArray.empty, -1⟩
def nth (t : List Nd) (i : Nat) : Nd := t.getD i nd0
def par (t : List Nd) (i : Nat) : Int := (nth t i).parent
def knd (t : List Nd) (i : Nat) : Nat := (nth t i).kind
def nam (t : List Nd) (i : Nat) : ByteArray := (nth t i).name
def vlu (t : List Nd) (i : Nat) : ByteArray := (nth t i).value

/-- A node's Parent is open at its place. -/
abbrev Ord (t : List Nd) (i : Nat) : Prop := -1 ≤ par t i ∧ par t i < (i : Int) ∧ ∀ j, j < i → par t i < (j : Int) → par t i ≤ par t j

/-- How many elements deep a node is. -/
def dep (t : List Nd) (i : Nat) : Nat :=
  (if knd t i = 2 then 1 else 0) + (if h : 0 ≤ par t i ∧ par t i < (i : Int) then dep t (par t i).toNat else 0)
termination_by i
decreasing_by omega
def depI (t : List Nd) (k : Int) : Nat := if 0 ≤ k then dep t k.toNat else 0
theorem depI_nat (t : List Nd) (k : Nat) : depI t (k : Int) = dep t k := by
  unfold depI
  rw [if_pos (by omega), Int.toNat_natCast]
theorem depI_neg (t : List Nd) (k : Int) (h : k < 0) : depI t k = 0 := by
  unfold depI
  rw [if_neg (by omega)]
theorem dep_eq {t : List Nd} {i : Nat} (h : Ord t i) : dep t i = (if knd t i = 2 then 1 else 0) + depI t (par t i) := by
  rw [dep]
  unfold depI
  by_cases h0 : 0 ≤ par t i
  · rw [dif_pos ⟨h0, h.2.1⟩, if_pos h0]
  · rw [dif_neg (by omega), if_neg h0]

def has2 (a b : UInt8) : List UInt8 → Bool
  | x :: y :: r => (x == a && y == b) || has2 a b (y :: r)
  | _ => false
/-- xml, in small or great letters. -/
def xmlB (l : List UInt8) : Bool := decide (l.length = 3) && (l.getD 0 0 == 120 || l.getD 0 0 == 88) && (l.getD 1 0 == 109 || l.getD 1 0 == 77) && (l.getD 2 0 == 108 || l.getD 2 0 == 76)
abbrev inside (t : List Nd) (i : Nat) : Prop := par t i < 0 ∨ knd t (par t i).toNat = 1 ∨ knd t (par t i).toNat = 2
abbrev txtBeside (t : List Nd) (i : Nat) : Prop := 0 < i ∧ par t (i - 1) = par t i ∧ knd t (i - 1) = 4
abbrev valOk (t : List Nd) (i : Nat) : Prop := textsB (bl (vlu t i)) = true ∧ (vlu t i).size ≤ 65536

/-- A node fits, but for how deep it is: as the document tells it. -/
abbrev Fit (t : List Nd) (i : Nat) : Prop := valOk t i ∧ (
  (knd t i = 1 ∧ i = 0 ∧ (nam t i).size = 0 ∧ (vlu t i).size = 0) ∨
  (knd t i = 2 ∧ inside t i ∧ nameB (bl (nam t i)) = true ∧ (vlu t i).size = 0) ∨
  (knd t i = 3 ∧ (0 ≤ par t i ∧ knd t (par t i).toNat = 2) ∧ nameB (bl (nam t i)) = true ∧ ∀ j, j < i → par t i < (j : Int) → par t j = par t i ∧ knd t j = 3 ∧ nam t j ≠ nam t i) ∨
  (knd t i = 4 ∧ (par t i < 0 ∨ knd t (par t i).toNat = 2) ∧ (nam t i).size = 0 ∧ (vlu t i).size ≠ 0 ∧ ¬ txtBeside t i) ∨
  (knd t i = 5 ∧ inside t i ∧ (nam t i).size = 0 ∧ has2 45 45 (bl (vlu t i)) = false ∧ (bl (vlu t i)).getLast? ≠ some 45) ∨
  (knd t i = 6 ∧ inside t i ∧ (nameB (bl (nam t i)) = true ∧ xmlB (bl (nam t i)) = false) ∧ has2 63 62 (bl (vlu t i)) = false ∧ ((vlu t i).size = 0 ∨ blankB ((bl (vlu t i)).take 1) = false)))

/-- The same, as one looks at the node right ahead alone, whatever names the attributes have. -/
abbrev FitP (t : List Nd) (i : Nat) : Prop := valOk t i ∧ (
  (knd t i = 1 ∧ i = 0 ∧ (nam t i).size = 0 ∧ (vlu t i).size = 0) ∨
  (knd t i = 2 ∧ inside t i ∧ nameB (bl (nam t i)) = true ∧ (vlu t i).size = 0) ∨
  (knd t i = 3 ∧ (0 ≤ par t i ∧ knd t (par t i).toNat = 2) ∧ nameB (bl (nam t i)) = true ∧ ((i : Int) - 1 = par t i ∨ (0 < i ∧ par t (i - 1) = par t i ∧ knd t (i - 1) = 3))) ∨
  (knd t i = 4 ∧ (par t i < 0 ∨ knd t (par t i).toNat = 2) ∧ (nam t i).size = 0 ∧ (vlu t i).size ≠ 0 ∧ ¬ txtBeside t i) ∨
  (knd t i = 5 ∧ inside t i ∧ (nam t i).size = 0 ∧ has2 45 45 (bl (vlu t i)) = false ∧ (bl (vlu t i)).getLast? ≠ some 45) ∨
  (knd t i = 6 ∧ inside t i ∧ (nameB (bl (nam t i)) = true ∧ xmlB (bl (nam t i)) = false) ∧ has2 63 62 (bl (vlu t i)) = false ∧ ((vlu t i).size = 0 ∨ blankB ((bl (vlu t i)).take 1) = false)))

/-- All nodes ahead of a place are in order and fit. -/
abbrev Upto (t : List Nd) (n : Nat) : Prop := ∀ i, i < n → Ord t i ∧ Fit t i
theorem Upto.less {t : List Nd} {n m : Nat} (h : Upto t n) (hm : m ≤ n) : Upto t m := fun i hi => h i (by omega)
theorem Upto.succ {t : List Nd} {n : Nat} (h : Upto t n) (h1 : Ord t n) (h2 : Fit t n) : Upto t (n + 1) := fun i hi => by
  by_cases e : i = n
  · subst e; exact ⟨h1, h2⟩
  · exact h i (by omega)

/-- the last attribute of a name ahead of a place: its element. -/
def lastOwn (t : List Nd) : Nat → ByteArray → Option Int
  | 0, _ => none
  | i + 1, n => if knd t i = 3 ∧ nam t i = n then some (par t i) else lastOwn t i n

theorem adj {t : List Nd} {i : Nat} (h : Upto t i) (h3 : (i : Int) - 1 = par t i ∨ (0 < i ∧ par t (i - 1) = par t i ∧ knd t (i - 1) = 3)) :
    ∀ j, j < i → par t i < (j : Int) → par t j = par t i ∧ knd t j = 3 := by
  intro j hj hp
  rcases h3 with h3 | ⟨h0, h1, h2⟩
  · omega
  · by_cases e : j = i - 1
    · subst e; exact ⟨h1, h2⟩
    · obtain ⟨o, v, f⟩ := h (i - 1) (by omega)
      rcases f with f | f | f | f | f | f
      · omega
      · omega
      · obtain ⟨_, _, _, f⟩ := f
        have := f j (by omega) (by omega)
        exact ⟨by rw [this.1, h1], this.2.1⟩
      · omega
      · omega
      · omega

theorem lastOwn_some {t : List Nd} {n : ByteArray} {p : Int} : ∀ i, lastOwn t i n = some p → ∃ j, j < i ∧ knd t j = 3 ∧ nam t j = n ∧ par t j = p
  | 0, h => by cases h
  | i + 1, h => by
    unfold lastOwn at h
    split at h
    · rename_i c
      exact ⟨i, by omega, c.1, c.2, Option.some.inj h⟩
    · obtain ⟨j, hj, r⟩ := lastOwn_some i h
      exact ⟨j, by omega, r⟩

/-- Another attribute of that name and element. -/
theorem dup_iff {t : List Nd} {i : Nat} (h : Upto t i) (ha : ∀ j, j < i → par t i < (j : Int) → par t j = par t i ∧ knd t j = 3) :
    lastOwn t i (nam t i) = some (par t i) ↔ ∃ j, j < i ∧ par t i < (j : Int) ∧ nam t j = nam t i := by
  constructor
  · intro e
    obtain ⟨j, hj, hk, hn, hp⟩ := lastOwn_some i e
    have := (h j hj).1.2.1
    exact ⟨j, hj, by omega, hn⟩
  · rintro ⟨j, hj, hp, hn⟩
    have key : ∀ m, j < m → m ≤ i → lastOwn t m (nam t i) = some (par t i) := by
      intro m
      induction m with
      | zero => intro h1; omega
      | succ m ih =>
        intro h1 h2
        have hm := ha m (by omega) (by omega)
        unfold lastOwn
        split
        · rw [hm.1]
        · rename_i c
          by_cases e : m = j
          · subst e
            exact absurd ⟨hm.2, hn⟩ c
          · exact ih (by omega) (by omega)
    exact key i hj (Nat.le_refl _)

theorem fit_of {t : List Nd} {i : Nat} (h : Upto t i) (f : FitP t i) (hd : knd t i = 3 → lastOwn t i (nam t i) ≠ some (par t i)) : Fit t i := by
  refine ⟨f.1, ?_⟩
  rcases f.2 with f | f | f | f | f | f
  · exact Or.inl f
  · exact Or.inr (Or.inl f)
  · refine Or.inr (Or.inr (Or.inl ⟨f.1, f.2.1, f.2.2.1, ?_⟩))
    intro j hj hp
    have ha := adj h f.2.2.2
    refine ⟨(ha j hj hp).1, (ha j hj hp).2, fun e => ?_⟩
    exact hd f.1 ((dup_iff h ha).2 ⟨j, hj, hp, e⟩)
  · exact Or.inr (Or.inr (Or.inr (Or.inl f)))
  · exact Or.inr (Or.inr (Or.inr (Or.inr (Or.inl f))))
  · exact Or.inr (Or.inr (Or.inr (Or.inr (Or.inr f))))
theorem of_fit {t : List Nd} {i : Nat} (h : Upto t i) (o : Ord t i) (f : Fit t i) : FitP t i ∧ (knd t i = 3 → lastOwn t i (nam t i) ≠ some (par t i)) := by
  obtain ⟨v, f⟩ := f
  rcases f with f | f | f | f | f | f
  · exact ⟨⟨v, Or.inl f⟩, by omega⟩
  · exact ⟨⟨v, Or.inr (Or.inl f)⟩, by omega⟩
  · refine ⟨⟨v, Or.inr (Or.inr (Or.inl ⟨f.1, f.2.1, f.2.2.1, ?_⟩))⟩, fun _ e => ?_⟩
    · by_cases e : (i : Int) - 1 = par t i
      · exact Or.inl e
      · have h1 := o.2.1
        have h0 := f.2.1.1
        have := f.2.2.2 (i - 1) (by omega) (by omega)
        exact Or.inr ⟨by omega, this.1, this.2.1⟩
    · obtain ⟨j, hj, hp, hn⟩ := (dup_iff h (fun j hj hp => ⟨(f.2.2.2 j hj hp).1, (f.2.2.2 j hj hp).2.1⟩)).1 e
      exact (f.2.2.2 j hj hp).2.2 hn
  · exact ⟨⟨v, Or.inr (Or.inr (Or.inr (Or.inl f)))⟩, by omega⟩
  · exact ⟨⟨v, Or.inr (Or.inr (Or.inr (Or.inr (Or.inl f))))⟩, by omega⟩
  · exact ⟨⟨v, Or.inr (Or.inr (Or.inr (Or.inr (Or.inr f))))⟩, by omega⟩

/-! ### climbing -/
/-- A place is open at another one. -/
abbrev Opn (t : List Nd) (u : Int) (i : Nat) : Prop := u < (i : Int) ∧ ∀ j, j < i → u < (j : Int) → u ≤ par t j
theorem opn_start (t : List Nd) (i : Nat) : Opn t ((i : Int) - 1) i := ⟨by omega, fun j hj h => by omega⟩
theorem opn_up {t : List Nd} {i u : Nat} (h : ∀ j, j < i → Ord t j) (o : Opn t (u : Int) i) : Opn t (par t u) i := by
  have hu : u < i := by have := o.1; omega
  have ou := h u hu
  refine ⟨by have := ou.2.1; omega, fun j hj hp => ?_⟩
  by_cases e : (u : Int) < j
  · have := o.2 j hj e
    have := ou.2.1
    omega
  · by_cases e2 : j = u
    · subst e2; exact Int.le_refl _
    · exact ou.2.2 j (by omega) hp
/-- climbing from an open place past another one: that one is not open. -/
theorem opn_not {t : List Nd} {i u : Nat} {p : Int} (hu : u < i) (h1 : p < (u : Int)) (h2 : par t u < p) : ¬ Opn t p i := fun o => by
  have := o.2 u hu h1
  omega
theorem ord_iff (t : List Nd) (i : Nat) : Ord t i ↔ -1 ≤ par t i ∧ Opn t (par t i) i := ⟨fun h => ⟨h.1, h.2.1, h.2.2⟩, fun h => ⟨h.1, h.2.1, h.2.2⟩⟩

/-- The last sibling ahead of a text that is a text stands right ahead. -/
theorem sib_text {t : List Nd} {i s : Nat} (h : Upto t i) (o : Ord t i) (hs : s < i) (hp : par t i < (s : Int)) (h1 : par t s = par t i) (h4 : knd t s = 4)
    (hl : ∀ j, s < j → j < i → ¬ (par t j = par t i ∧ knd t j ≠ 3)) : s = i - 1 := by
  by_cases e : s = i - 1
  · exact e
  · exfalso
    have hs1 : s + 1 < i := by omega
    obtain ⟨o1, v1, f1⟩ := h (s + 1) hs1
    have hge := o.2.2 (s + 1) hs1 (by omega)
    have hlt : par t (s + 1) < ((s + 1 : Nat) : Int) := o1.2.1
    have hcase : par t (s + 1) = (s : Int) ∨ par t (s + 1) = par t i := by
      by_cases e1 : par t (s + 1) = (s : Int)
      · exact Or.inl e1
      · right
        have := o1.2.2 s (by omega) (by omega)
        omega
    rcases hcase with e1 | e1
    · -- below a text nothing fits
      have hk : knd t (par t (s + 1)).toNat = 4 := by rw [e1, Int.toNat_natCast, h4]
      rcases f1 with f | f | f | f | f | f
      · omega
      · rcases f.2.1 with g | g | g <;> omega
      · omega
      · rcases f.2.1 with g | g <;> omega
      · rcases f.2.1 with g | g | g <;> omega
      · rcases f.2.1 with g | g | g <;> omega
    · have hk : knd t (s + 1) = 3 := by
        by_cases hk : knd t (s + 1) = 3
        · exact hk
        · exact absurd ⟨e1, hk⟩ (hl (s + 1) (by omega) hs1)
      rcases f1 with f | f | f | f | f | f
      · omega
      · omega
      · have := f.2.2.2 s (by omega) (by omega)
        omega
      · omega
      · omega
      · omega

/-! ### what a row is told to be -/
abbrev tops (t : List Nd) : Nat := t.countP (fun n => decide (n.parent < 0))
abbrev elems (t : List Nd) : Nat := t.countP (fun n => decide (n.parent = 0 ∧ n.kind = 2))
abbrev oneRoot (t : List Nd) : Prop := knd t 0 = 1 ∧ tops t = 1 ∧ elems t = 1
abbrev noRoot (t : List Nd) : Prop := knd t 0 ≠ 1
/-- the deepest element ahead of a place. -/
def deepest (t : List Nd) : Nat → Nat
  | 0 => 0
  | i + 1 => if knd t i = 2 then max (deepest t i) (dep t i) else deepest t i
abbrev Good (t : List Nd) : Prop := Upto t t.length
def goodB (t : List Nd) : Nat → Bool
  | 0 => true
  | n + 1 => goodB t n && (decide (Ord t n) && decide (Fit t n))
theorem goodB_iff (t : List Nd) : ∀ n, goodB t n = true ↔ Upto t n
  | 0 => ⟨fun _ i hi => by omega, fun _ => rfl⟩
  | n + 1 => by
    have ih := goodB_iff t n
    unfold goodB
    rw [Bool.and_eq_true, Bool.and_eq_true, ih]
    exact ⟨fun h => h.1.succ (of_decide_eq_true h.2.1) (of_decide_eq_true h.2.2), fun h => ⟨h.less (by omega), decide_eq_true (h n (by omega)).1, decide_eq_true (h n (by omega)).2⟩⟩
/-- What Check (root) and Fragment tell. -/
def judged (t : List Nd) (roots : Bool) : Nat :=
  if 16384 < t.length then 3 else if (goodB t t.length && roots) = false then 4 else if 60 < deepest t t.length then 131 else 0
theorem deepest_le {t : List Nd} (k : Nat) : ∀ n, deepest t n ≤ k ↔ ∀ i, i < n → knd t i = 2 → dep t i ≤ k
  | 0 => ⟨fun _ i hi => by omega, fun _ => Nat.zero_le _⟩
  | n + 1 => by
    have ih := deepest_le (t := t) k n
    unfold deepest
    split
    · rename_i c
      constructor
      · intro h i hi hk
        by_cases e : i = n
        · subst e; omega
        · exact ih.1 (by omega) i (by omega) hk
      · intro h
        have h1 := ih.2 (fun i hi hk => h i (by omega) hk)
        have h2 := h n (by omega) c
        omega
    · rename_i c
      constructor
      · intro h i hi hk
        by_cases e : i = n
        · subst e; exact absurd hk c
        · exact ih.1 h i (by omega) hk
      · intro h
        exact ih.2 (fun i hi hk => h i (by omega) hk)

def ordB (t : List Nd) (i : Nat) : Bool := decide (Ord t i)
theorem ordB_yes {t : List Nd} {i : Nat} (h : Ord t i) : ordB t i = true := decide_eq_true h
theorem ordB_no {t : List Nd} {i : Nat} (h : ¬ Ord t i) : ordB t i = false := decide_eq_false h
def fitPB (t : List Nd) (i : Nat) : Bool := decide (FitP t i)
def fitB (t : List Nd) (i : Nat) : Bool := decide (Fit t i)
/-- what is left behind on the way up to an open Parent: so many elements. -/
def LeftIs (t : List Nd) (k left : Nat) : Prop := Ord t k → left + depI t (par t k) = depI t ((k : Int) - 1)
theorem nth_lt {t : List Nd} {i : Nat} (h : i < t.length) : nth t i = t[i] := by simp [nth, h]
theorem nth_ge {t : List Nd} {i : Nat} (h : t.length ≤ i) : nth t i = nd0 := by simp [nth, h]

end Go.Proofs.YtdfgmdddnehocabGreatDoor
