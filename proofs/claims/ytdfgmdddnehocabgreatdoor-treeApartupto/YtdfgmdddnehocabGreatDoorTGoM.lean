/-
  Where axes go: the document's own lists and the program's are the same: plain mathematics.
-/
import Derived.Test.YtdfgmdddnehocabGreatDoorTRefM
set_option linter.unusedVariables false
namespace Go.Proofs.YtdfgmdddnehocabGreatDoor
open Go.Lib

/-- In order, all of it. -/
abbrev Ords (t : List Nd) : Prop := ∀ j, j < t.length → Ord t j
theorem Good.ords {t : List Nd} (G : Good t) : Ords t := fun j hj => (G j hj).1

/-- A node is in another one's subtree. -/
def belowB (t : List Nd) (i k : Nat) : Bool := decide (i = k) || decide (k ∈ anc t i)
theorem below_end {t : List Nd} (O : Ords t) {i k : Nat} (hi : i < t.length) (hk : k < t.length) : belowB t i k = true ↔ k ≤ i ∧ i < endOf t k := by
  have E := endOf_is (t := t) (k := (k : Int)) (by omega) (by omega)
  have := E.gt
  unfold belowB
  rw [Bool.or_eq_true, decide_eq_true_eq, decide_eq_true_eq, anc_end O hi hk]
  omega
/-- the document's lists. -/
def withTo (t : List Nd) (k : Int) (att : Bool) (b : Nat) : List Nat := (List.range b).filter fun i => decide (par t i = k) && (decide (knd t i = 3) == att)
def belowTo (t : List Nd) (k b : Nat) : List Nat := (List.range b).filter fun i => decide (knd t i ≠ 3) && (decide (k < i) && belowB t i k)
def behindTo (t : List Nd) (k b : Nat) : List Nat := (List.range b).filter fun i => decide (knd t i ≠ 3) && (decide (k < i) && !belowB t i k)
def aheadTo (t : List Nd) (k b : Nat) : List Nat := (List.range b).filter fun i => decide (knd t i ≠ 3) && (decide (i < k) && !belowB t k i)
abbrev sibB (t : List Nd) (k i : Nat) : Bool := decide (par t i = par t k) && decide (knd t k ≠ 3)
def afterTo (t : List Nd) (k b : Nat) : List Nat := (behindTo t k b).filter (sibB t k)
def beforeTo (t : List Nd) (k b : Nat) : List Nat := (aheadTo t k b).filter (sibB t k)

theorem range_filter (p : Nat → Bool) (a b n : Nat) (ha : a ≤ b) (hb : b ≤ n) (h : ∀ i, i < n → p i = true → a ≤ i ∧ i < b) : (List.range n).filter p = (List.range' a (b - a)).filter p := by
  rw [List.range_eq_range', show n = a + ((b - a) + (n - b)) by omega, ← List.range'_append_1, ← List.range'_append_1]
  rw [List.filter_append, List.filter_append]
  have e1 : (List.range' 0 a).filter p = [] := by
    refine List.filter_eq_nil_iff.2 fun x hx hp => ?_
    have h1 := List.mem_range'_1.1 hx
    have := h x (by omega) hp
    omega
  have e2 : (List.range' (0 + a + (b - a)) (n - b)).filter p = [] := by
    refine List.filter_eq_nil_iff.2 fun x hx hp => ?_
    have h1 := List.mem_range'_1.1 hx
    have := h x (by omega) hp
    omega
  rw [e1, e2]
  simp
theorem filter_congr' {p q : Nat → Bool} {l : List Nat} (h : ∀ x ∈ l, p x = q x) : l.filter p = l.filter q := List.filter_congr h

theorem below_eq {t : List Nd} (O : Ords t) {k : Nat} (hk : k < t.length) : belowTo t k t.length = str t (k + 1) (endOf t k) := by
  have E := endOf_is (t := t) (k := (k : Int)) (by omega) (by omega)
  have h1 := E.gt
  have h2 := E.le
  unfold belowTo str
  rw [range_filter _ (k + 1) (endOf t k) t.length (by omega) h2 (fun i hi hp => by
    simp only [Bool.and_eq_true, decide_eq_true_eq] at hp
    have := (below_end O hi hk).1 hp.2.2
    omega)]
  refine List.filter_congr fun i hi => ?_
  have hm := List.mem_range'_1.1 hi
  have hb : belowB t i k = true := (below_end O (by omega) hk).2 ⟨by omega, by omega⟩
  rw [hb, decide_eq_true (show k < i by omega)]
  simp [nat3]
theorem behind_eq {t : List Nd} (O : Ords t) {k : Nat} (hk : k < t.length) : behindTo t k t.length = str t (endOf t k) t.length := by
  have E := endOf_is (t := t) (k := (k : Int)) (by omega) (by omega)
  have h1 := E.gt
  have h2 := E.le
  have key : ∀ i, i < t.length → (k < i ∧ belowB t i k = false ↔ endOf t k ≤ i) := fun i hi => by
    have hb := below_end O hi hk
    constructor
    · rintro ⟨g1, g2⟩
      rcases Nat.lt_or_ge i (endOf t k) with c | c
      · rw [hb.2 ⟨by omega, c⟩] at g2; cases g2
      · exact c
    · intro g
      refine ⟨by omega, ?_⟩
      cases hx : belowB t i k with
      | false => rfl
      | true => have := hb.1 hx; omega
  unfold behindTo str
  rw [range_filter _ (endOf t k) t.length t.length h2 (Nat.le_refl _) (fun i hi hp => by
    simp only [Bool.and_eq_true, decide_eq_true_eq, Bool.not_eq_true'] at hp
    exact ⟨(key i hi).1 hp.2, hi⟩)]
  refine List.filter_congr fun i hi => ?_
  have hm := List.mem_range'_1.1 hi
  have := (key i (by omega)).2 (by omega)
  rw [this.2, decide_eq_true this.1]
  simp [nat3]
theorem ahead_eq {t : List Nd} {k : Nat} (hk : k < t.length) : (aheadTo t k t.length).reverse = prec t k := by
  unfold aheadTo prec
  rw [range_filter _ 0 k t.length (Nat.zero_le _) (by omega) (fun i hi hp => by
    simp only [Bool.and_eq_true, decide_eq_true_eq] at hp
    omega), Nat.sub_zero, ← List.range_eq_range', ← List.filter_reverse]
  refine List.filter_congr fun i hi => ?_
  have hm : i < k := by simpa using hi
  have hb : belowB t k i = decide (i ∈ anc t k) := by
    unfold belowB
    rw [decide_eq_false (show ¬ k = i by omega), Bool.false_or]
  rw [hb, decide_eq_true hm, Bool.true_and]
  simp only [nat3, decide_not]
  rw [Bool.and_comm]
theorem with_kids {t : List Nd} (O : Ords t) {p : Int} (hp0 : -1 ≤ p) (hp : p < t.length) : withTo t p false t.length = kidsL t p := by
  have E := endOf_is (t := t) (k := p) hp0 hp
  have h1 := E.gt
  have h2 := E.le
  unfold withTo kidsL kidsTo
  rw [range_filter _ (p + 1).toNat (endOf t p) t.length (by omega) h2 (fun i hi hq => by
    simp only [Bool.and_eq_true, decide_eq_true_eq] at hq
    have o := O i hi
    have hpi := o.2.1
    refine ⟨by omega, ?_⟩
    rcases Nat.lt_or_ge i (endOf t p) with c | c
    · exact c
    · exfalso
      have s := E.stop (by omega)
      by_cases e : endOf t p = i
      · rw [e] at s; omega
      · have := o.2.2 (endOf t p) (by omega) (by omega)
        omega)]
  refine List.filter_congr fun i hi => ?_
  simp [isKid, nat3]
theorem after_eq {t : List Nd} (O : Ords t) {k : Nat} (hk : k < t.length) (h3 : knd t k ≠ 3) : afterTo t k t.length = (kidsL t (par t k)).filter (fun i => decide (k < i)) := by
  have o := O k hk
  have E := endOf_is (t := t) (k := (k : Int)) (by omega) (by omega)
  rw [← with_kids O o.1 (by have := o.2.1; omega)]
  unfold afterTo behindTo withTo
  rw [List.filter_filter, List.filter_filter]
  refine List.filter_congr fun i hi => ?_
  have hm : i < t.length := by simpa using hi
  by_cases c : k < i
  · by_cases c1 : par t i = par t k
    · have hb : belowB t i k = false := by
        cases hx : belowB t i k with
        | false => rfl
        | true =>
          have h1 := (below_end O hm hk).1 hx
          have h2 := E.all i (by omega) h1.2
          have := o.2.1
          omega
      simp [sibB, c, c1, h3, hb]
    · simp [sibB, c1]
  · simp [c]
theorem before_eq {t : List Nd} (O : Ords t) {k : Nat} (hk : k < t.length) (h3 : knd t k ≠ 3) : beforeTo t k t.length = (kidsL t (par t k)).filter (fun i => decide (i < k)) := by
  have o := O k hk
  rw [← with_kids O o.1 (by have := o.2.1; omega)]
  unfold beforeTo aheadTo withTo
  rw [List.filter_filter, List.filter_filter]
  refine List.filter_congr fun i hi => ?_
  have hm : i < t.length := by simpa using hi
  by_cases c : i < k
  · by_cases c1 : par t i = par t k
    · have hb : belowB t k i = false := by
        cases hx : belowB t k i with
        | false => rfl
        | true =>
          have h1 := (below_end O hk hm).1 hx
          have E := endOf_is (t := t) (k := (i : Int)) (by omega) (by omega)
          have h2 := E.all k (by omega) h1.2
          have := (O i hm).2.1
          omega
      simp [sibB, c, c1, h3, hb]
    · simp [sibB, c1]
  · simp [c]
theorem after_attr {t : List Nd} {k : Nat} (h3 : knd t k = 3) (b : Nat) : afterTo t k b = [] := by
  unfold afterTo
  refine List.filter_eq_nil_iff.2 fun x hx => ?_
  simp [sibB, h3]
theorem before_attr {t : List Nd} {k : Nat} (h3 : knd t k = 3) (b : Nat) : beforeTo t k b = [] := by
  unfold beforeTo
  refine List.filter_eq_nil_iff.2 fun x hx => ?_
  simp [sibB, h3]
/-- a node's attributes stand right behind it. -/
def attrEnd (t : List Nd) (k : Nat) : Nat → Nat → Nat
  | 0, i => i
  | n + 1, i => if par t i = (k : Int) ∧ knd t i = 3 then attrEnd t k n (i + 1) else i
theorem attrEnd_spec (t : List Nd) (k : Nat) : ∀ n i, i ≤ attrEnd t k n i ∧ attrEnd t k n i ≤ i + n ∧ (∀ j, i ≤ j → j < attrEnd t k n i → par t j = k ∧ knd t j = 3) ∧ (attrEnd t k n i < i + n → ¬ (par t (attrEnd t k n i) = k ∧ knd t (attrEnd t k n i) = 3))
  | 0, i => ⟨Nat.le_refl _, Nat.le_refl _, fun j h1 h2 => by unfold attrEnd at h2; omega, fun h => by unfold attrEnd at h; omega⟩
  | n + 1, i => by
    unfold attrEnd
    split
    · rename_i c
      obtain ⟨h1, h2, h3, h4⟩ := attrEnd_spec t k n (i + 1)
      refine ⟨by omega, by omega, fun j g1 g2 => ?_, fun g => h4 (by omega)⟩
      by_cases e : j = i
      · subst e; exact c
      · exact h3 j (by omega) g2
    · rename_i c
      exact ⟨Nat.le_refl _, by omega, fun j g1 g2 => by omega, fun _ => c⟩
structure AttrIs (t : List Nd) (k e : Nat) : Prop where
  gt : k < e
  le : e ≤ t.length
  all : ∀ j : Nat, k < j → j < e → par t j = k ∧ knd t j = 3
  stop : e < t.length → ¬ (par t e = k ∧ knd t e = 3)
theorem attrs_eq {t : List Nd} (G : Good t) {k e : Nat} (hk : k < t.length) (A : AttrIs t k e) : withTo t k true t.length = List.range' (k + 1) (e - (k + 1)) := by
  have hgt := A.gt
  unfold withTo
  rw [range_filter _ (k + 1) e t.length (by omega) A.le (fun i hi hq => by
    simp only [Bool.and_eq_true, decide_eq_true_eq, beq_iff_eq] at hq
    obtain ⟨o, f⟩ := G i hi
    have hpi := o.2.1
    refine ⟨by omega, ?_⟩
    rcases Nat.lt_or_ge i e with c | c
    · exact c
    · exfalso
      by_cases ei : e = i
      · subst ei; exact A.stop hi ⟨hq.1, hq.2⟩
      · rcases f.2 with f | f | f | f | f | f
        · omega
        · omega
        · have := f.2.2.2 e (by omega) (by omega)
          exact A.stop (by omega) ⟨by omega, this.2.1⟩
        · omega
        · omega
        · omega)]
  refine List.filter_eq_self.2 fun i hi => ?_
  have hm := List.mem_range'_1.1 hi
  have := A.all i (by omega) (by omega)
  simp [this.1, this.2]
end Go.Proofs.YtdfgmdddnehocabGreatDoor
