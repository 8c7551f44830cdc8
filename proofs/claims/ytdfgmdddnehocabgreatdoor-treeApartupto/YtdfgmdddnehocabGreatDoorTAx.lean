/-
  Rows of nodes: ends, ancestors, what is ahead and behind: plain mathematics.
-/
import Derived.Test.YtdfgmdddnehocabGreatDoorTMath
set_option linter.unusedVariables false
namespace Go.Proofs.YtdfgmdddnehocabGreatDoor
open Go.Lib

/-! ### the place behind a subtree -/
def endFrom (t : List Nd) (k : Int) : Nat → Nat → Nat
  | 0, i => i
  | n + 1, i => if k ≤ par t i then endFrom t k n (i + 1) else i
/-- The place behind what is below a place (of -1: behind all). -/
def endOf (t : List Nd) (k : Int) : Nat := endFrom t k (t.length - (k + 1).toNat) (k + 1).toNat
theorem endFrom_spec (t : List Nd) (k : Int) : ∀ n i, i ≤ endFrom t k n i ∧ endFrom t k n i ≤ i + n ∧ (∀ j, i ≤ j → j < endFrom t k n i → k ≤ par t j) ∧ (endFrom t k n i < i + n → par t (endFrom t k n i) < k)
  | 0, i => ⟨Nat.le_refl _, Nat.le_refl _, fun j h1 h2 => by unfold endFrom at h2; omega, fun h => by unfold endFrom at h; omega⟩
  | n + 1, i => by
    unfold endFrom
    split
    · rename_i c
      obtain ⟨h1, h2, h3, h4⟩ := endFrom_spec t k n (i + 1)
      refine ⟨by omega, by omega, fun j g1 g2 => ?_, fun g => h4 (by omega)⟩
      by_cases e : j = i
      · subst e; exact c
      · exact h3 j (by omega) g2
    · rename_i c
      exact ⟨Nat.le_refl _, by omega, fun j g1 g2 => by omega, fun _ => by omega⟩
structure EndIs (t : List Nd) (k : Int) (e : Nat) : Prop where
  gt : k < (e : Int)
  le : e ≤ t.length
  all : ∀ j : Nat, k < (j : Int) → j < e → k ≤ par t j
  stop : e < t.length → par t e < k
theorem endOf_is {t : List Nd} {k : Int} (h0 : -1 ≤ k) (hk : k < t.length) : EndIs t k (endOf t k) := by
  obtain ⟨h1, h2, h3, h4⟩ := endFrom_spec t k (t.length - (k + 1).toNat) (k + 1).toNat
  have : endOf t k = endFrom t k (t.length - (k + 1).toNat) (k + 1).toNat := rfl
  rw [← this] at h1 h2 h3 h4
  exact ⟨by omega, by omega, fun j g1 g2 => h3 j (by omega) g2, fun g => h4 (by omega)⟩
theorem EndIs.uniq {t : List Nd} {k : Int} {e f : Nat} (h : EndIs t k e) (g : EndIs t k f) : e = f := by
  rcases Nat.lt_trichotomy e f with c | c | c
  · have h1 := h.stop (by have := g.le; omega)
    have h2 := g.all e h.gt c
    omega
  · exact c
  · have h1 := g.stop (by have := h.le; omega)
    have h2 := h.all f g.gt c
    omega

/-! ### ancestors -/
def anc (t : List Nd) (i : Nat) : List Nat :=
  if h : 0 ≤ par t i ∧ par t i < (i : Int) then (par t i).toNat :: anc t (par t i).toNat else []
termination_by i
decreasing_by omega
def ancI (t : List Nd) (u : Int) : List Nat := if 0 ≤ u then u.toNat :: anc t u.toNat else []
theorem anc_eq {t : List Nd} {i : Nat} (h : par t i < (i : Int)) : anc t i = ancI t (par t i) := by
  rw [anc]
  unfold ancI
  by_cases c : 0 ≤ par t i
  · rw [dif_pos ⟨c, h⟩, if_pos c]
  · rw [dif_neg (by omega), if_neg c]
theorem ancI_nat (t : List Nd) (k : Nat) : ancI t (k : Int) = k :: anc t k := by
  unfold ancI
  rw [if_pos (by omega), Int.toNat_natCast]
theorem ancI_neg (t : List Nd) (u : Int) (h : u < 0) : ancI t u = [] := by
  unfold ancI
  rw [if_neg (by omega)]
theorem anc_lt (t : List Nd) : ∀ i a, a ∈ anc t i → a < i := by
  intro i
  induction i using Nat.strongRecOn with
  | _ i ih =>
    intro a ha
    rw [anc] at ha
    split at ha
    · rename_i c
      rcases List.mem_cons.1 ha with e | e
      · omega
      · have := ih _ (by omega) a e
        omega
    · cases ha
theorem ancI_le {t : List Nd} {u : Int} {a : Nat} (h : a ∈ ancI t u) : (a : Int) ≤ u := by
  unfold ancI at h
  split at h
  · rename_i c
    rcases List.mem_cons.1 h with e | e
    · omega
    · have := anc_lt t _ a e
      omega
  · cases h
/-- An ancestor is a place in whose stretch one is. -/
theorem mem_anc {t : List Nd} (i : Nat) (h : ∀ j, j ≤ i → Ord t j) (a : Nat) : a ∈ anc t i ↔ a < i ∧ ∀ j, a < j → j ≤ i → (a : Int) ≤ par t j := by
  induction i using Nat.strongRecOn with
  | _ i ih =>
    have oi := h i (Nat.le_refl _)
    rw [anc_eq oi.2.1]
    unfold ancI
    by_cases c : 0 ≤ par t i
    · rw [if_pos c]
      obtain ⟨p, hp⟩ : ∃ p : Nat, par t i = (p : Int) := ⟨(par t i).toNat, by omega⟩
      rw [hp, Int.toNat_natCast]
      have hpi : p < i := by have := oi.2.1; omega
      have ihp := ih p hpi (fun j hj => h j (by omega))
      constructor
      · intro hm
        rcases List.mem_cons.1 hm with e | e
        · subst e
          refine ⟨hpi, fun j h1 h2 => ?_⟩
          by_cases ej : j = i
          · subst ej; omega
          · have := oi.2.2 j (by omega) (by omega)
            omega
        · obtain ⟨g1, g2⟩ := ihp.1 e
          refine ⟨by omega, fun j h1 h2 => ?_⟩
          by_cases ej : j = i
          · subst ej; omega
          · by_cases ek : j ≤ p
            · exact g2 j h1 ek
            · have := oi.2.2 j (by omega) (by omega)
              omega
      · rintro ⟨g1, g2⟩
        have := g2 i g1 (Nat.le_refl _)
        rw [hp] at this
        by_cases e : a = p
        · subst e; exact List.mem_cons_self
        · refine List.mem_cons_of_mem _ (ihp.2 ⟨by omega, fun j h1 h2 => g2 j h1 (by omega)⟩)
    · rw [if_neg c]
      constructor
      · intro hm; cases hm
      · rintro ⟨g1, g2⟩
        have := g2 i g1 (Nat.le_refl _)
        omega
theorem anc_end {t : List Nd} (h : ∀ j, j < t.length → Ord t j) {i a : Nat} (hi : i < t.length) (ha : a < t.length) : a ∈ anc t i ↔ a < i ∧ i < endOf t a := by
  rw [mem_anc i (fun j hj => h j (by omega)) a]
  have E := endOf_is (t := t) (k := (a : Int)) (by omega) (by omega)
  constructor
  · rintro ⟨g1, g2⟩
    refine ⟨g1, ?_⟩
    rcases Nat.lt_or_ge i (endOf t a) with c | c
    · exact c
    · have h1 := g2 (endOf t a) (by have := E.gt; omega) c
      have h2 := E.stop (by omega)
      omega
  · rintro ⟨g1, g2⟩
    exact ⟨g1, fun j h1 h2 => E.all j (by omega) (by omega)⟩

/-! ### stretches -/
abbrev nat3 (t : List Nd) (i : Nat) : Bool := decide (knd t i ≠ 3)
/-- The places from one to ahead of another that are no attributes. -/
def str (t : List Nd) (a b : Nat) : List Nat := (List.range' a (b - a)).filter (nat3 t)
theorem mem_str {t : List Nd} {a b i : Nat} : i ∈ str t a b ↔ a ≤ i ∧ i < b ∧ knd t i ≠ 3 := by
  unfold str
  rw [List.mem_filter, List.mem_range'_1]
  simp only [nat3, decide_eq_true_eq]
  omega
theorem str_nodup (t : List Nd) (a b : Nat) : (str t a b).Nodup := (List.nodup_range' (step := 1)).filter _
theorem str_nil {t : List Nd} {a b : Nat} (h : b ≤ a) : str t a b = [] := by
  unfold str
  rw [show b - a = 0 by omega]
  rfl
theorem str_step {t : List Nd} {a b : Nat} (h : a ≤ b) : str t a (b + 1) = if knd t b ≠ 3 then str t a b ++ [b] else str t a b := by
  unfold str
  rw [show b + 1 - a = (b - a) + 1 by omega, List.range'_concat, List.filter_append]
  rw [show a + 1 * (b - a) = b by omega]
  by_cases c : knd t b ≠ 3
  · rw [if_pos c]; simp [nat3, c]
  · rw [if_neg c]; simp [nat3, c]
/-- What is ahead, from the last one on. -/
def prec (t : List Nd) (k : Nat) : List Nat := (List.range k).reverse.filter fun i => decide (i ∉ anc t k) && nat3 t i
theorem mem_prec {t : List Nd} {k i : Nat} : i ∈ prec t k ↔ i < k ∧ i ∉ anc t k ∧ knd t i ≠ 3 := by
  unfold prec
  simp [List.mem_filter, nat3]
theorem prec_nodup (t : List Nd) (k : Nat) : (prec t k).Nodup := by
  unfold prec
  refine List.Pairwise.filter _ ?_
  rw [List.pairwise_reverse]
  exact List.nodup_range.imp fun h => fun e => h e.symm
theorem anc_nodup (t : List Nd) : ∀ i, (anc t i).Nodup := by
  intro i
  induction i using Nat.strongRecOn with
  | _ i ih =>
    rw [anc]
    split
    · rename_i c
      refine List.nodup_cons.2 ⟨fun hm => ?_, ih _ (by omega)⟩
      have := anc_lt t _ _ hm
      omega
    · exact List.nodup_nil

theorem par_kind {t : List Nd} {i : Nat} (o : Ord t i) (f : Fit t i) (h : 0 ≤ par t i) : knd t (par t i).toNat = 1 ∨ knd t (par t i).toNat = 2 := by
  rcases f.2 with f | f | f | f | f | f
  · have := o.2.1; omega
  · rcases f.2.1 with g | g
    · omega
    · exact g
  · exact Or.inr f.2.1.2
  · rcases f.2.1 with g | g
    · omega
    · exact Or.inr g
  · rcases f.2.1 with g | g
    · omega
    · exact g
  · rcases f.2.1 with g | g
    · omega
    · exact g
theorem anc_kind {t : List Nd} : ∀ i, Upto t (i + 1) → ∀ a, a ∈ anc t i → knd t a = 1 ∨ knd t a = 2 := by
  intro i
  induction i using Nat.strongRecOn with
  | _ i ih =>
    intro h a ha
    obtain ⟨o, f⟩ := h i (by omega)
    rw [anc_eq o.2.1] at ha
    unfold ancI at ha
    split at ha
    · rename_i c
      have hp := o.2.1
      rcases List.mem_cons.1 ha with e | e
      · subst e; exact par_kind o f c
      · exact ih _ (by omega) (h.less (by omega)) a e
    · cases ha

theorem count_one {l : List Nat} (h : l.Nodup) (i : Nat) : l.count i = if i ∈ l then 1 else 0 := by
  by_cases c : i ∈ l
  · rw [if_pos c]
    exact Nat.le_antisymm (List.nodup_iff_count.1 h i) (List.count_pos_iff.2 c)
  · rw [if_neg c]
    exact List.count_eq_zero.2 c

/-- **The five axes part the row.** -/
theorem five {t : List Nd} (G : Good t) {k : Nat} (hk : k < t.length) (h3 : knd t k ≠ 3) {i : Nat} (hi : i < t.length) :
    ([k] ++ anc t k ++ str t (k + 1) (endOf t k) ++ str t (endOf t k) t.length ++ prec t k).count i = if knd t i = 3 then 0 else 1 := by
  have E := endOf_is (t := t) (k := (k : Int)) (by omega) (by omega)
  have hgt := E.gt
  have hle := E.le
  rw [List.count_append, List.count_append, List.count_append, List.count_append, count_one (anc_nodup t k), count_one (str_nodup _ _ _), count_one (str_nodup _ _ _), count_one (prec_nodup _ _)]
  rw [show List.count i [k] = if i = k then 1 else 0 by
    by_cases c : i = k
    · subst c; simp
    · rw [if_neg c]; exact List.count_eq_zero.2 (by simpa using c)]
  simp only [mem_str, mem_prec]
  by_cases c3 : knd t i = 3
  · have n1 : ¬ i = k := fun e => h3 (e ▸ c3)
    have n2 : ¬ i ∈ anc t k := fun e => by rcases anc_kind k (G.less (by omega)) i e with g | g <;> omega
    rw [if_neg n1, if_neg n2, if_neg (by omega), if_neg (by omega), if_neg (by omega), if_pos c3]
  · rw [if_neg c3]
    rcases Nat.lt_trichotomy i k with c | c | c
    · rw [if_neg (show ¬ i = k by omega), if_neg (show ¬ (k + 1 ≤ i ∧ i < endOf t k ∧ knd t i ≠ 3) by omega), if_neg (show ¬ (endOf t k ≤ i ∧ i < t.length ∧ knd t i ≠ 3) by omega)]
      by_cases m : i ∈ anc t k
      · rw [if_pos m, if_neg (fun x => x.2.1 m)]
      · rw [if_neg m, if_pos ⟨c, m, c3⟩]
    · have n2 : ¬ i ∈ anc t k := fun e => by have := anc_lt t k i e; omega
      rw [if_pos c, if_neg n2, if_neg (by omega), if_neg (by omega), if_neg (by omega)]
    · have n2 : ¬ i ∈ anc t k := fun e => by have := anc_lt t k i e; omega
      rw [if_neg (show ¬ i = k by omega), if_neg n2, if_neg (show ¬ (i < k ∧ i ∉ anc t k ∧ knd t i ≠ 3) by omega)]
      by_cases m : i < endOf t k
      · rw [if_pos ⟨by omega, m, c3⟩, if_neg (by omega)]
      · rw [if_neg (by omega), if_pos ⟨by omega, hi, c3⟩]

/-! ### children -/
abbrev isKid (t : List Nd) (k : Int) (i : Nat) : Bool := decide (par t i = k) && nat3 t i
/-- The children of a place (of -1: the tops) from one on ahead of another. -/
def kidsTo (t : List Nd) (k : Int) (b : Nat) : List Nat := (List.range' (k + 1).toNat (b - (k + 1).toNat)).filter (isKid t k)
def kidsL (t : List Nd) (k : Int) : List Nat := kidsTo t k (endOf t k)
def attrsTo (t : List Nd) (k : Nat) (b : Nat) : List Nat := List.range' (k + 1) (b - (k + 1))
theorem kids_step {t : List Nd} {k : Int} {b : Nat} (h : (k + 1).toNat ≤ b) : kidsTo t k (b + 1) = if par t b = k ∧ knd t b ≠ 3 then kidsTo t k b ++ [b] else kidsTo t k b := by
  unfold kidsTo
  rw [show b + 1 - (k + 1).toNat = (b - (k + 1).toNat) + 1 by omega, List.range'_concat, List.filter_append]
  rw [show (k + 1).toNat + 1 * (b - (k + 1).toNat) = b by omega]
  by_cases c : par t b = k ∧ knd t b ≠ 3
  · rw [if_pos c]; simp [isKid, nat3, c.1, c.2]
  · rw [if_neg c]
    have : isKid t k b = false := by
      simp only [isKid, nat3, Bool.and_eq_false_iff, decide_eq_false_iff_not]
      by_cases c1 : par t b = k
      · exact Or.inr (fun h => c ⟨c1, h⟩)
      · exact Or.inl c1
    simp [this]
theorem mem_kidsTo {t : List Nd} {k : Int} {b i : Nat} : i ∈ kidsTo t k b ↔ (k + 1).toNat ≤ i ∧ i < b ∧ par t i = k ∧ knd t i ≠ 3 := by
  unfold kidsTo
  rw [List.mem_filter, List.mem_range'_1]
  simp only [isKid, nat3, Bool.and_eq_true, decide_eq_true_eq]
  omega
theorem filter_sub {p q : Nat → Bool} {l : List Nat} (h : ∀ x ∈ l, p x = true) : l.filter p = l := List.filter_eq_self.2 h
/-- Siblings ahead, oneself and siblings behind are the parent's children. -/
theorem sib_row {t : List Nd} (G : Good t) {k : Nat} (hk : k < t.length) (h3 : knd t k ≠ 3) :
    (kidsL t (par t k)).filter (fun i => decide (i < k)) ++ k :: (kidsL t (par t k)).filter (fun i => decide (k < i)) = kidsL t (par t k) := by
  have o := (G k hk).1
  have E := endOf_is (t := t) (k := par t k) o.1 (by have := o.2.1; omega)
  have hke : k < endOf t (par t k) := by
    rcases Nat.lt_or_ge k (endOf t (par t k)) with c | c
    · exact c
    · exfalso
      have h1 := E.stop (by omega)
      by_cases e : endOf t (par t k) = k
      · rw [e] at h1; omega
      · have := o.2.2 (endOf t (par t k)) (by omega) E.gt
        omega
  have ho := o.2.1
  have ho1 := o.1
  unfold kidsL kidsTo
  generalize endOf t (par t k) = e at hke
  obtain ⟨a, ha⟩ : ∃ a, (par t k + 1).toNat = a := ⟨_, rfl⟩
  rw [ha]
  have hak : a ≤ k := by omega
  have hsplit : List.range' a (e - a) = List.range' a (k - a) ++ k :: List.range' (k + 1) (e - (k + 1)) := by
    rw [show e - a = (k - a) + ((e - (k + 1)) + 1) by omega, ← List.range'_append_1, show a + (k - a) = k by omega, List.range'_succ]
  rw [hsplit]
  simp only [List.filter_append, List.filter_cons]
  have hkk : isKid t (par t k) k = true := by simp [isKid, nat3, h3]
  rw [if_pos hkk]
  simp only [List.filter_cons, Nat.lt_irrefl, decide_false]
  have f1 : ((List.range' a (k - a)).filter (isKid t (par t k))).filter (fun i => decide (i < k)) = (List.range' a (k - a)).filter (isKid t (par t k)) := by
    refine List.filter_eq_self.2 fun x hx => ?_
    have := (List.mem_range'_1.1 (List.mem_filter.1 hx).1)
    exact decide_eq_true (by omega)
  have f2 : ((List.range' (k + 1) (e - (k + 1))).filter (isKid t (par t k))).filter (fun i => decide (i < k)) = [] := by
    refine List.filter_eq_nil_iff.2 fun x hx => ?_
    have := (List.mem_range'_1.1 (List.mem_filter.1 hx).1)
    simp; omega
  have f3 : ((List.range' a (k - a)).filter (isKid t (par t k))).filter (fun i => decide (k < i)) = [] := by
    refine List.filter_eq_nil_iff.2 fun x hx => ?_
    have := (List.mem_range'_1.1 (List.mem_filter.1 hx).1)
    simp; omega
  have f4 : ((List.range' (k + 1) (e - (k + 1))).filter (isKid t (par t k))).filter (fun i => decide (k < i)) = (List.range' (k + 1) (e - (k + 1))).filter (isKid t (par t k)) := by
    refine List.filter_eq_self.2 fun x hx => ?_
    have := (List.mem_range'_1.1 (List.mem_filter.1 hx).1)
    exact decide_eq_true (by omega)
  rw [f1, f2, f3, f4]
  simp

/-- what is ahead, step by step: 'above' is the next ancestor below the place. -/
theorem prec_step {t : List Nd} {k : Nat} (h : ∀ j, j ≤ k → Ord t j) {i : Nat} (hi : i < k) {u : Int} (hu : u ≤ (i : Int)) (inv : ∀ a, a ≤ i → (a ∈ anc t k ↔ a ∈ ancI t u)) :
    ((u = (i : Int)) → i ∈ anc t k ∧ par t i < (i : Int) ∧ ∀ a, a < i → (a ∈ anc t k ↔ a ∈ ancI t (par t i))) ∧ (u ≠ (i : Int) → i ∉ anc t k) := by
  constructor
  · intro e
    subst e
    rw [ancI_nat] at inv
    refine ⟨(inv i (Nat.le_refl _)).2 List.mem_cons_self, (h i (by omega)).2.1, fun a ha => ?_⟩
    rw [inv a (by omega), List.mem_cons, ← anc_eq (h i (by omega)).2.1]
    constructor
    · rintro (e | e)
      · omega
      · exact e
    · exact Or.inr
  · intro ne hm
    have := ancI_le ((inv i (Nat.le_refl _)).1 hm)
    omega

end Go.Proofs.YtdfgmdddnehocabGreatDoor
