/-
  Labels of a tree stand as its nodes do: plain mathematics.
-/
import Derived.Test.YtddcilmeignlmaaDoorLIns
namespace Go.Proofs.YtddcilmeignlmaaDoor
open Go.RowKit Go.Maps Go.Lib

abbrev Path := List (List Bool)
/-- Two rows of steps part at a step. -/
def dvS (p q : Path) : Prop := ∃ (c : Path) (a b : List Bool) (x y : Path), p = c ++ a :: x ∧ q = c ++ b :: y ∧ sless a b
/-- .. or the one begins the other. -/
def ltS (p q : Path) : Prop := (∃ r, r ≠ [] ∧ q = p ++ r) ∨ dvS p q

theorem dvS.left {p q : Path} (h : dvS p q) (z : Path) : dvS (p ++ z) q := by
  obtain ⟨c, a, b, x, y, rfl, rfl, s⟩ := h
  exact ⟨c, a, b, x ++ z, y, by simp, rfl, s⟩
theorem dvS.right {p q : Path} (h : dvS p q) (z : Path) : dvS p (q ++ z) := by
  obtain ⟨c, a, b, x, y, rfl, rfl, s⟩ := h
  exact ⟨c, a, b, x, y ++ z, rfl, by simp, s⟩
theorem ltS.right {p q : Path} (h : ltS p q) (z : Path) : ltS p (q ++ z) := by
  rcases h with ⟨r, hr, rfl⟩ | h
  · exact Or.inl ⟨r ++ z, by simp [hr], by simp⟩
  · exact Or.inr (h.right z)
theorem ltS.ne {p q : Path} (h : ltS p q) : q ≠ [] := by
  rcases h with ⟨r, hr, rfl⟩ | ⟨c, a, b, x, y, rfl, rfl, s⟩
  · intro e
    exact hr (List.append_eq_nil_iff.1 e).2
  · simp

/-- where two steps part, as they are written. -/
theorem wr_part {a b : List Bool} (h : sless a b) (hb : okS b) : ∃ d, d < (Go.Proofs.YtddcilmeignlmaaDoor.wr a).length ∧ (∀ i, i < d → (Go.Proofs.YtddcilmeignlmaaDoor.wr a).getD i false = (Go.Proofs.YtddcilmeignlmaaDoor.wr b).getD i false) ∧ (Go.Proofs.YtddcilmeignlmaaDoor.wr a).getD d false = false ∧ (Go.Proofs.YtddcilmeignlmaaDoor.wr b).getD d false = true ∧ ∃ e, d < e ∧ (Go.Proofs.YtddcilmeignlmaaDoor.wr b).getD e false = true ∨ d + 1 < (Go.Proofs.YtddcilmeignlmaaDoor.wr a).length := by
  obtain ⟨d, h1, h2, h3⟩ := h
  have hdb := getD_lt h3
  obtain ⟨b0, b1⟩ := okS_last hb
  by_cases hd : d < a.length
  · refine ⟨2 * d + 1, by rw [wr_len]; omega, fun i hi => ?_, by rw [wr_odd a d hd]; exact h2, by rw [wr_odd b d hdb]; exact h3, 0, Or.inr (by rw [wr_len]; omega)⟩
    rcases Nat.mod_two_eq_zero_or_one i with e | e
    · obtain ⟨j, rfl⟩ : ∃ j, i = 2 * j := ⟨i / 2, by omega⟩
      rw [wr_even a j (by omega), wr_even b j (by omega)]
    · obtain ⟨j, rfl⟩ : ∃ j, i = 2 * j + 1 := ⟨i / 2, by omega⟩
      rw [wr_odd a j (by omega), wr_odd b j (by omega)]
      exact h1 j (by omega)
  · refine ⟨2 * a.length, by rw [wr_len]; omega, fun i hi => ?_, wr_end a, wr_even b a.length (by omega), 2 * (b.length - 1) + 1, Or.inl ⟨by omega, by rw [wr_odd b _ (by omega)]; exact b1⟩⟩
    rcases Nat.mod_two_eq_zero_or_one i with e | e
    · obtain ⟨j, rfl⟩ : ∃ j, i = 2 * j := ⟨i / 2, by omega⟩
      rw [wr_even a j (by omega), wr_even b j (by omega)]
    · obtain ⟨j, rfl⟩ : ∃ j, i = 2 * j + 1 := ⟨i / 2, by omega⟩
      rw [wr_odd a j (by omega), wr_odd b j (by omega)]
      exact h1 j (by omega)

theorem getD_left {r s : List Bool} {i : Nat} (h : i < r.length) : (r ++ s).getD i false = r.getD i false := by rw [getD_append, if_pos h]
theorem getD_at (r s : List Bool) (i : Nat) : (r ++ s).getD (r.length + i) false = s.getD i false := by rw [getD_append, if_neg (by omega), Nat.add_sub_cancel_left]

/-- bits of two rows of steps that part. -/
structure Split (P Q : List Bool) (d : Nat) : Prop where
  lt : d < P.length
  same : ∀ i, i < d → P.getD i false = Q.getD i false
  no : P.getD d false = false
  yes : Q.getD d false = true
  more : d + 1 < P.length ∨ ∃ e, d < e ∧ Q.getD e false = true
theorem split_of {p q : Path} (h : dvS p q) (hq : ∀ s ∈ q, okS s) : ∃ d, Split (enc p) (enc q) d := by
  obtain ⟨c, a, b, x, y, rfl, rfl, s⟩ := h
  obtain ⟨d, h1, h2, h3, h4, e, h5⟩ := wr_part s (hq b (by simp))
  have hdb := getD_lt h4
  have ep : enc (c ++ a :: x) = enc c ++ (Go.Proofs.YtddcilmeignlmaaDoor.wr a ++ enc x) := by rw [enc_append, enc_cons]
  have eq : enc (c ++ b :: y) = enc c ++ (Go.Proofs.YtddcilmeignlmaaDoor.wr b ++ enc y) := by rw [enc_append, enc_cons]
  refine ⟨(enc c).length + d, ?_, ?_, ?_, ?_, ?_⟩
  · rw [ep, List.length_append, List.length_append]; omega
  · intro i hi
    rw [ep, eq]
    by_cases ci : i < (enc c).length
    · rw [getD_left ci, getD_left ci]
    · obtain ⟨j, rfl⟩ : ∃ j, i = (enc c).length + j := ⟨i - (enc c).length, by omega⟩
      rw [getD_at, getD_at, getD_left (by omega), getD_left (by omega)]
      exact h2 j (by omega)
  · rw [ep, getD_at, getD_left h1]; exact h3
  · rw [eq, getD_at, getD_left hdb]; exact h4
  · rcases h5 with ⟨h5, h6⟩ | h5
    · refine Or.inr ⟨(enc c).length + e, by omega, ?_⟩
      rw [eq, getD_at, getD_left (getD_lt h6)]; exact h6
    · left
      rw [ep, List.length_append, List.length_append]; omega

theorem Split.less {P Q : List Bool} {d : Nat} (h : Split P Q d) : sless P Q := ⟨d, h.same, h.no, h.yes⟩
theorem ltS_less {l m : List UInt8} {p q : Path} (L : Lab l p) (M : Lab m q) (h : ltS p q) : compareBytes l m = -1 := by
  rcases h with ⟨r, hr, rfl⟩ | h
  · exact parent_less L M hr
  · obtain ⟨d, s⟩ := split_of h M.ok
    exact cb_rows L.rep M.rep s.less
/-- Beginnings are above. -/
theorem abv_app (p r : Path) (hr : r ≠ []) : abv p (p ++ r) = true := by
  unfold abv
  rw [enc_append, List.take_left]
  have : 0 < r.length := List.length_pos_iff.2 hr
  simp
  exact this
/-- What parts is not above. -/
theorem abv_dv {p q : Path} (h : dvS p q) (hq : ∀ s ∈ q, okS s) : abv p q = false := by
  obtain ⟨d, s⟩ := split_of h hq
  unfold abv
  rw [Bool.and_eq_false_iff]
  right
  rw [beq_eq_false_iff_ne]
  intro e
  have h1 := s.no
  have h2 := s.yes
  have h3 := s.lt
  rw [← e] at h1
  rw [List.getD_eq_getElem?_getD, List.getElem?_take, if_pos h3, ← List.getD_eq_getElem?_getD, h2] at h1
  cases h1
/-- .. and stands behind the end. -/
theorem end_dv {m e : List UInt8} {p q : Path} (h : dvS p q) (M : Lab m q) (E : Rep (mkS e) (endR p).length (endR p)) : compareBytes m e = 1 := by
  obtain ⟨d, s⟩ := split_of h M.ok
  have h3 := s.lt
  have hE : ∀ i, i + 1 < (enc p).length → (endR p).getD i false = (enc p).getD i false := fun i hi => by
    unfold endR
    rw [getD_append, if_pos (by simp; omega), List.getD_eq_getElem?_getD, List.getD_eq_getElem?_getD, List.getElem?_dropLast, if_pos (by omega)]
  have hL : (endR p).length = (enc p).length := by unfold endR; simp; omega
  have key : sless (endR p) (enc q) := by
    by_cases c : d + 1 < (enc p).length
    · exact ⟨d, fun i hi => by rw [hE i (by omega)]; exact s.same i hi, by rw [hE d c]; exact s.no, s.yes⟩
    · rcases s.more with c' | ⟨x, hx, hy⟩
      · exact absurd c' c
      · obtain ⟨z, _, ⟨hz1, hz2⟩, hz3⟩ := leastN (fun i => d < i ∧ (enc q).getD i false = true) x ⟨hx, hy⟩
        refine ⟨z, fun i hi => ?_, getD_out (by omega), hz2⟩
        rcases Nat.lt_trichotomy i d with g | g | g
        · rw [hE i (by omega)]; exact s.same i g
        · subst g
          rw [s.yes]
          unfold endR
          rw [show i = (enc p).dropLast.length + 0 by simp; omega, getD_at]
          rfl
        · rw [getD_out (by omega)]
          cases hb : (enc q).getD i false
          · rfl
          · exact absurd ⟨g, hb⟩ (hz3 i hi)
  have := cb_rows E M.rep key
  rw [cb_sym e m, this]
  rfl

/-! ### children's steps -/
theorem kid_dec : ∀ (k : Fin 3) (i j : Fin 6), i.val < j.val → j.val < 2 ^ (k.val + 1) → ∃ d : Fin 4, (∀ x : Fin 4, x.val < d.val → (kidS (k.val + 1) i.val).getD x.val false = (kidS (k.val + 1) j.val).getD x.val false) ∧ (kidS (k.val + 1) i.val).getD d.val false = false ∧ (kidS (k.val + 1) j.val).getD d.val false = true := by decide
theorem kid_less {k i j n : Nat} (hn : n ≤ 5) (hk : n / 2 ^ k < 2 ∧ (k = 0 ∨ 2 ^ k ≤ n)) (hij : i < j) (hj : j ≤ n) : k ≤ 2 ∧ sless (kidS (k + 1) i) (kidS (k + 1) j) := by
  have hk2 : k ≤ 2 := by
    rcases hk.2 with e | e
    · omega
    · rcases Nat.lt_or_ge 2 k with c | c
      · have : 2 ^ 3 ≤ 2 ^ k := Nat.pow_le_pow_right (by omega) c
        omega
      · exact c
  refine ⟨hk2, ?_⟩
  have hlt : n < 2 ^ (k + 1) := by
    have := (Nat.div_lt_iff_lt_mul (Nat.two_pow_pos k)).1 hk.1
    rw [Nat.pow_succ]; omega
  obtain ⟨d, h1, h2, h3⟩ := kid_dec ⟨k, by omega⟩ ⟨i, by omega⟩ ⟨j, by omega⟩ hij (by show j < 2 ^ (k + 1); omega)
  exact ⟨d.val, fun x hx => h1 ⟨x, by omega⟩ hx, h2, h3⟩

/-! ### the walk through a tree: those that are told, and those that are still to come, the next first -/
structure Tour (R S : List Path) : Prop where
  told : R.Pairwise ltS
  across : ∀ r ∈ R, ∀ s ∈ S, ltS r s
  open_ : S.Pairwise dvS
def kidsP (x : Path) (wide n : Nat) : List Path := (List.range n).map fun i => x ++ [kidS wide (i + 1)]
theorem Tour.start : Tour [] [[]] := ⟨List.Pairwise.nil, (fun r hr => by cases hr), List.pairwise_singleton _ _⟩
theorem Tour.step {R S : List Path} {x : Path} (h : Tour R (x :: S)) {n k : Nat} (hn : n ≤ 5) (hk : n / 2 ^ k < 2 ∧ (k = 0 ∨ 2 ^ k ≤ n)) : Tour (R ++ [x]) (kidsP x (k + 1) n ++ S) := by
  have hx := List.pairwise_cons.1 h.open_
  refine ⟨?_, ?_, ?_⟩
  · refine List.pairwise_append.2 ⟨h.told, List.pairwise_singleton _ _, fun r hr s hs => ?_⟩
    rw [List.mem_singleton.1 hs]
    exact h.across r hr x List.mem_cons_self
  · intro r hr s hs
    rcases List.mem_append.1 hr with hr | hr
    · rcases List.mem_append.1 hs with hs | hs
      · obtain ⟨i, _, rfl⟩ := List.mem_map.1 hs
        exact (h.across r hr x List.mem_cons_self).right _
      · exact h.across r hr s (List.mem_cons_of_mem _ hs)
    · rw [List.mem_singleton.1 hr]
      rcases List.mem_append.1 hs with hs | hs
      · obtain ⟨i, _, rfl⟩ := List.mem_map.1 hs
        exact Or.inl ⟨_, by simp, rfl⟩
      · exact Or.inr (hx.1 s hs)
  · refine List.pairwise_append.2 ⟨?_, hx.2, fun r hr s hs => ?_⟩
    · unfold kidsP
      refine List.pairwise_map.2 ?_
      refine (List.pairwise_lt_range).imp_of_mem fun {a b} ha hb hab => ?_
      have hbn := List.mem_range.1 hb
      exact ⟨x, _, _, [], [], rfl, rfl, (kid_less hn hk (show a + 1 < b + 1 by omega) (by omega)).2⟩
    · obtain ⟨i, _, rfl⟩ := List.mem_map.1 hr
      exact (hx.1 s hs).left _

/-! ### how long labels get -/
def Narrow (p : Path) : Prop := ∀ s ∈ p, s.length ≤ 3
theorem Narrow.len : ∀ {p : Path}, Narrow p → (enc p).length ≤ 7 * p.length
  | [], _ => by simp [enc]
  | s :: r, h => by
    have h1 := h s (by simp)
    have h2 := Narrow.len (p := r) (fun t ht => h t (by simp [ht]))
    rw [enc_cons, List.length_append, wr_length, List.length_cons]
    omega
theorem Narrow.kid {p : Path} (h : Narrow p) {k i : Nat} (hk : k ≤ 2) : Narrow (p ++ [kidS (k + 1) i]) := by
  intro s hs
  rcases List.mem_append.1 hs with hs | hs
  · exact h s hs
  · rw [List.mem_singleton.1 hs]
    have := kidS_len (k + 1) i
    omega
theorem top_small {n k : Nat} (hn : n ≤ 5) (hk : n / 2 ^ k < 2 ∧ (k = 0 ∨ 2 ^ k ≤ n)) : k ≤ 2 := by
  rcases hk.2 with e | e
  · omega
  · rcases Nat.lt_or_ge 2 k with c | c
    · have : 2 ^ 3 ≤ 2 ^ k := Nat.pow_le_pow_right (by omega) c
      omega
    · exact c
end Go.Proofs.YtddcilmeignlmaaDoor
