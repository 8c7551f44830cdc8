/-
  The spans at which two pages differ: plain mathematics, no program.
-/
import Derived.Test.YtlfpoeimgoikkaaGMath
namespace Go.Proofs.Ytlfpoeimgoikkaa

/-- What is known behind i places: the spans that are put, the one that is not put yet (its end is 0 while there is none). -/
def dwalk (a b : List UInt8) : Nat → List (Nat × Nat) × Nat × Nat
  | 0 => ([], 0, 0)
  | i + 1 =>
    let s := dwalk a b i
    if byteAt a i = byteAt b i then s else if s.2.2 = 0 then (s.1, i, i + 1) else if 7 < i - s.2.2 then (s.1 ++ [(s.2.1, s.2.2)], i, i + 1) else (s.1, s.2.1, i + 1)
def spansOf (s : List (Nat × Nat) × Nat × Nat) : List (Nat × Nat) := if s.2.2 = 0 then s.1 else s.1 ++ [(s.2.1, s.2.2)]
def diffS (a b : List UInt8) : List (Nat × Nat) := spansOf (dwalk a b 512)

/-- Spans that rise, eight alike between each two, differ at their ends; from a place on. -/
def Rises (a b : List UInt8) : Nat → List (Nat × Nat) → Prop
  | _, [] => True
  | m, (f, t) :: r => m ≤ f ∧ f < t ∧ byteAt a f ≠ byteAt b f ∧ byteAt a (t - 1) ≠ byteAt b (t - 1) ∧ Rises a b (t + 8) r
theorem Rises.snoc {a b : List UInt8} : ∀ {l : List (Nat × Nat)} {m f t : Nat}, Rises a b m l → (∀ x ∈ l, x.2 + 8 ≤ f) → m ≤ f → f < t → byteAt a f ≠ byteAt b f → byteAt a (t - 1) ≠ byteAt b (t - 1) → Rises a b m (l ++ [(f, t)])
  | [], m, f, t, _, _, h1, h2, h3, h4 => ⟨h1, h2, h3, h4, trivial⟩
  | (f0, t0) :: r, m, f, t, h, hx, h1, h2, h3, h4 => by
    obtain ⟨k1, k2, k3, k4, k5⟩ := h
    exact ⟨k1, k2, k3, k4, Rises.snoc k5 (fun x hx' => hx x (List.mem_cons_of_mem _ hx')) (hx (f0, t0) (by simp)) h2 h3 h4⟩

structure DOk (a b : List UInt8) (i : Nat) (s : List (Nat × Nat) × Nat × Nat) : Prop where
  none : s.2.2 = 0 → s.1 = [] ∧ s.2.1 = 0
  le : s.2.2 ≤ i
  cur : s.2.2 ≠ 0 → s.2.1 < s.2.2 ∧ byteAt a s.2.1 ≠ byteAt b s.2.1 ∧ byteAt a (s.2.2 - 1) ≠ byteAt b (s.2.2 - 1) ∧ (∀ x ∈ s.1, x.2 + 8 ≤ s.2.1)
  rises : Rises a b 0 s.1
  few : 9 * s.1.length ≤ s.2.1
  out : ∀ j, j < i → (∀ x ∈ spansOf s, ¬ (x.1 ≤ j ∧ j < x.2)) → byteAt a j = byteAt b j
theorem dwalk_ok (a b : List UInt8) : ∀ i, DOk a b i (dwalk a b i)
  | 0 => ⟨fun _ => ⟨rfl, rfl⟩, Nat.le_refl _, fun h => absurd rfl h, trivial, Nat.le_refl _, fun j hj => absurd hj (by omega)⟩
  | i + 1 => by
    have ih := dwalk_ok a b i
    generalize hs : dwalk a b i = s at ih
    obtain ⟨d, f, t⟩ := s
    have hd : dwalk a b (i + 1) = if byteAt a i = byteAt b i then (d, f, t) else if t = 0 then (d, i, i + 1) else if 7 < i - t then (d ++ [(f, t)], i, i + 1) else (d, f, i + 1) := by
      rw [dwalk]
      simp only [hs]
    rw [hd]
    have hle : t ≤ i := ih.le
    by_cases he : byteAt a i = byteAt b i
    · rw [if_pos he]
      refine ⟨ih.none, by show t ≤ i + 1; omega, ih.cur, ih.rises, ih.few, fun j hj hx => ?_⟩
      by_cases hji : j = i
      · rw [hji]; exact he
      · exact ih.out j (by omega) hx
    · rw [if_neg he]
      by_cases ht : t = 0
      · rw [if_pos ht]
        obtain ⟨hd0, hf0⟩ := ih.none ht
        have hd0' : d = [] := hd0
        subst hd0'
        refine ⟨fun h => absurd h (by show ¬ i + 1 = 0; omega), Nat.le_refl _, fun _ => ⟨by show i < i + 1; omega, he, by show byteAt a (i + 1 - 1) ≠ _; rw [Nat.add_sub_cancel]; exact he, fun x hx => nomatch hx⟩, trivial, by show 9 * 0 ≤ i; omega, fun j hj hx => ?_⟩
        have hx2 : ¬ (i ≤ j ∧ j < i + 1) := hx (i, i + 1) (by unfold spansOf; rw [if_neg (by show ¬ i + 1 = 0; omega)]; simp)
        exact ih.out j (by omega) (fun x hx3 => by
          unfold spansOf at hx3
          rw [if_pos ht] at hx3
          exact nomatch hx3)
      · rw [if_neg ht]
        obtain ⟨c1, c2, c3, c4⟩ := ih.cur ht
        have c1' : f < t := c1
        by_cases h7 : 7 < i - t
        · rw [if_pos h7]
          refine ⟨fun h => absurd h (by show ¬ i + 1 = 0; omega), Nat.le_refl _, fun _ => ⟨by show i < i + 1; omega, he, by show byteAt a (i + 1 - 1) ≠ _; rw [Nat.add_sub_cancel]; exact he, fun x hx => ?_⟩, ih.rises.snoc c4 (Nat.zero_le _) c1 c2 c3, ?_, fun j hj hx => ?_⟩
          · have hx' : x ∈ d ++ [(f, t)] := hx
            rcases List.mem_append.1 hx' with h | h
            · have h9 : x.2 + 8 ≤ f := c4 x h
              show x.2 + 8 ≤ i
              omega
            · simp at h
              subst h
              show t + 8 ≤ i
              omega
          · have h9 : 9 * d.length ≤ f := ih.few
            show 9 * (d ++ [(f, t)]).length ≤ i
            rw [List.length_append]
            show 9 * (d.length + 1) ≤ i
            omega
          · have hx2 : ¬ (i ≤ j ∧ j < i + 1) := hx (i, i + 1) (by unfold spansOf; rw [if_neg (by show ¬ i + 1 = 0; omega)]; simp)
            exact ih.out j (by omega) (fun x hx3 => hx x (by
              unfold spansOf at hx3 ⊢
              rw [if_neg ht] at hx3
              rw [if_neg (by show ¬ i + 1 = 0; omega)]
              exact List.mem_append_left _ hx3))
        · rw [if_neg h7]
          refine ⟨fun h => absurd h (by show ¬ i + 1 = 0; omega), Nat.le_refl _, fun _ => ⟨by show f < i + 1; omega, c2, by show byteAt a (i + 1 - 1) ≠ _; rw [Nat.add_sub_cancel]; exact he, c4⟩, ih.rises, ih.few, fun j hj hx => ?_⟩
          have hx2 : ¬ (f ≤ j ∧ j < i + 1) := hx (f, i + 1) (by unfold spansOf; rw [if_neg (by show ¬ i + 1 = 0; omega)]; simp)
          have hjf : j < f := by omega
          exact ih.out j (by omega) (fun x hx3 => by
            unfold spansOf at hx3
            rw [if_neg ht] at hx3
            rcases List.mem_append.1 hx3 with h | h
            · exact hx x (by unfold spansOf; rw [if_neg (by show ¬ i + 1 = 0; omega)]; exact List.mem_append_left _ h)
            · simp at h
              subst h
              show ¬ (f ≤ j ∧ j < t)
              omega)
end Go.Proofs.Ytlfpoeimgoikkaa
