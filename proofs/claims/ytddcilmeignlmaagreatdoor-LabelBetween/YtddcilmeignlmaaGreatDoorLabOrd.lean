/-
  Labels: how they stand: plain mathematics.
-/
import Derived.Test.YtddcilmeignlmaaGreatDoorAft
namespace Go.Proofs.YtddcilmeignlmaaGreatDoor
open Go.RowKit Go.Maps Go.Lib

/-- Rows of bits that go on in noughts: the first place where they part. -/
def sless (a b : List Bool) : Prop := ∃ d, (∀ i, i < d → a.getD i false = b.getD i false) ∧ a.getD d false = false ∧ b.getD d false = true

theorem cb_rows {l m : List UInt8} {n k : Nat} {r q : List Bool} (h : Rep (mkS l) n r) (g : Rep (mkS m) k q) (hl : sless r q) : compareBytes l m = -1 := by
  obtain ⟨d, h1, h2, h3⟩ := hl
  have e1 := h.bit
  have e2 := g.bit
  rw [bl_mkS] at e1 e2
  exact cb_bits l m d (fun j hj => by rw [e1, e2]; exact h1 j hj) (by rw [e1]; exact h2) (by rw [e2]; exact h3)

theorem getD_out {r : List Bool} {i : Nat} (h : r.length ≤ i) : r.getD i false = false := by
  simp only [List.getD_eq_getElem?_getD]
  rw [List.getElem?_eq_none h]
  rfl
theorem getD_lt {r : List Bool} {i : Nat} (h : r.getD i false = true) : i < r.length := by
  rcases Nat.lt_or_ge i r.length with h' | h'
  · exact h'
  · rw [getD_out h'] at h; cases h

theorem sless_app (p : List Bool) {a b : List Bool} (h : sless a b) : sless (p ++ a) (p ++ b) := by
  obtain ⟨d, h1, h2, h3⟩ := h
  refine ⟨p.length + d, fun i hi => ?_, ?_, ?_⟩
  · rw [getD_append, getD_append]
    split
    · rfl
    · exact h1 _ (by omega)
  · rw [getD_append, if_neg (by omega), Nat.add_sub_cancel_left]; exact h2
  · rw [getD_append, if_neg (by omega), Nat.add_sub_cancel_left]; exact h3

theorem wr_cons (b : Bool) (s : List Bool) : Go.Proofs.YtddcilmeignlmaaGreatDoor.wr (b :: s) = true :: b :: Go.Proofs.YtddcilmeignlmaaGreatDoor.wr s := rfl
theorem wr_even : ∀ (s : List Bool) (j : Nat), j < s.length → (Go.Proofs.YtddcilmeignlmaaGreatDoor.wr s).getD (2 * j) false = true
  | b :: s, 0, _ => rfl
  | b :: s, j + 1, h => by
    rw [wr_cons, show 2 * (j + 1) = 2 * j + 1 + 1 from by omega, List.getD_cons_succ, List.getD_cons_succ]
    exact wr_even s j (by simpa using h)
theorem wr_odd : ∀ (s : List Bool) (j : Nat), j < s.length → (Go.Proofs.YtddcilmeignlmaaGreatDoor.wr s).getD (2 * j + 1) false = s.getD j false
  | b :: s, 0, _ => rfl
  | b :: s, j + 1, h => by
    rw [wr_cons, show 2 * (j + 1) + 1 = 2 * j + 1 + 1 + 1 from by omega, List.getD_cons_succ, List.getD_cons_succ, List.getD_cons_succ]
    exact wr_odd s j (by simpa using h)
theorem wr_len (s : List Bool) : (Go.Proofs.YtddcilmeignlmaaGreatDoor.wr s).length = 2 * s.length + 1 := by simp [Go.Proofs.YtddcilmeignlmaaGreatDoor.wr, dbl_len]
theorem wr_end (s : List Bool) : (Go.Proofs.YtddcilmeignlmaaGreatDoor.wr s).getD (2 * s.length) false = false := by
  unfold Go.Proofs.YtddcilmeignlmaaGreatDoor.wr
  rw [getD_append, if_neg (by rw [dbl_len]; omega), dbl_len, Nat.sub_self]
  rfl

theorem sless_wr {a b : List Bool} (h : sless a b) : sless (Go.Proofs.YtddcilmeignlmaaGreatDoor.wr a) (Go.Proofs.YtddcilmeignlmaaGreatDoor.wr b) := by
  obtain ⟨d, h1, h2, h3⟩ := h
  have hdb := getD_lt h3
  by_cases hd : d < a.length
  · refine ⟨2 * d + 1, fun i hi => ?_, by rw [wr_odd a d hd]; exact h2, by rw [wr_odd b d hdb]; exact h3⟩
    rcases Nat.mod_two_eq_zero_or_one i with e | e
    · obtain ⟨j, rfl⟩ : ∃ j, i = 2 * j := ⟨i / 2, by omega⟩
      rw [wr_even a j (by omega), wr_even b j (by omega)]
    · obtain ⟨j, rfl⟩ : ∃ j, i = 2 * j + 1 := ⟨i / 2, by omega⟩
      rw [wr_odd a j (by omega), wr_odd b j (by omega)]
      exact h1 j (by omega)
  · refine ⟨2 * a.length, fun i hi => ?_, wr_end a, wr_even b a.length (by omega)⟩
    rcases Nat.mod_two_eq_zero_or_one i with e | e
    · obtain ⟨j, rfl⟩ : ∃ j, i = 2 * j := ⟨i / 2, by omega⟩
      rw [wr_even a j (by omega), wr_even b j (by omega)]
    · obtain ⟨j, rfl⟩ : ∃ j, i = 2 * j + 1 := ⟨i / 2, by omega⟩
      rw [wr_odd a j (by omega), wr_odd b j (by omega)]
      exact h1 j (by omega)

/-- Children of one parent stand as their last steps do. -/
theorem kids_less {l m : List UInt8} {pp : List (List Bool)} {a b : List Bool} (L : Lab l (pp ++ [a])) (M : Lab m (pp ++ [b])) (h : sless a b) : compareBytes l m = -1 := by
  have h1 := L.rep
  have h2 := M.rep
  refine cb_rows h1 h2 ?_
  rw [enc_append, enc_append, enc_one, enc_one]
  exact sless_app _ (sless_wr h)

theorem okS_last {s : List Bool} (h : okS s) : 0 < s.length ∧ s.getD (s.length - 1) false = true := by
  unfold okS at h
  rw [List.getLast?_eq_getElem?] at h
  have h0 : 0 < s.length := by
    rcases Nat.eq_zero_or_pos s.length with e | e
    · rw [List.length_eq_zero_iff.1 e] at h; cases h
    · exact e
  refine ⟨h0, ?_⟩
  rw [List.getD_eq_getElem?_getD, h]
  rfl

theorem sless_three (a b : List Bool) : (∀ i, a.getD i false = b.getD i false) ∨ sless a b ∨ sless b a := by
  by_cases h : ∃ i, a.getD i false ≠ b.getD i false
  · obtain ⟨n, hn⟩ := h
    obtain ⟨d, _, h2, h3⟩ := leastN (fun i => a.getD i false ≠ b.getD i false) n hn
    have h4 : ∀ i, i < d → a.getD i false = b.getD i false := fun i hi => by
      by_cases e : a.getD i false = b.getD i false
      · exact e
      · exact absurd e (h3 i hi)
    right
    cases ha : a.getD d false <;> cases hb : b.getD d false
    · exact absurd (ha.trans hb.symm) h2
    · exact Or.inl ⟨d, h4, ha, hb⟩
    · exact Or.inr ⟨d, fun i hi => (h4 i hi).symm, hb, ha⟩
    · exact absurd (ha.trans hb.symm) h2
  · left
    intro i
    by_cases e : a.getD i false = b.getD i false
    · exact e
    · exact absurd ⟨i, e⟩ h
theorem okS_same {a b : List Bool} (ha : okS a) (hb : okS b) (h : ∀ i, a.getD i false = b.getD i false) : a = b := by
  obtain ⟨a0, a1⟩ := okS_last ha
  obtain ⟨b0, b1⟩ := okS_last hb
  have e1 : a.length - 1 < b.length := getD_lt ((h _).symm.trans a1)
  have e2 : b.length - 1 < a.length := getD_lt ((h _).trans b1)
  refine List.ext_getElem (by omega) (fun i h1 h2 => ?_)
  have := h i
  rw [List.getD_eq_getElem?_getD, List.getD_eq_getElem?_getD, List.getElem?_eq_getElem h1, List.getElem?_eq_getElem h2] at this
  exact this

/-- .. and back: a child ahead of another has the lesser step. -/
theorem less_kids {l m : List UInt8} {pp : List (List Bool)} {a b : List Bool} (L : Lab l (pp ++ [a])) (M : Lab m (pp ++ [b])) (h : compareBytes l m < 0) : sless a b := by
  rcases sless_three a b with e | e | e
  · have : a = b := okS_same (L.ok a (by simp)) (M.ok b (by simp)) e
    subst this
    have hlm : mkS l = mkS m := (Rep.unique L.rep M.rep).1
    have : l = m := by rw [← bl_mkS l, ← bl_mkS m, hlm]
    subst this
    rw [cb_self] at h
    exact absurd h (by decide)
  · exact e
  · have := kids_less M L e
    rw [cb_sym l m] at this
    omega

theorem mid_getD (lo : List Bool) (k i : Nat) : (preS lo k ++ [true]).getD i false = if i < k then lo.getD i false else if i = k then true else false := by
  rw [getD_append, preS_length]
  split
  · rename_i h
    unfold preS
    rw [List.getD_eq_getElem?_getD, List.getElem?_map, List.getElem?_range h]
    rfl
  · split
    · rename_i h1 h2
      subst h2
      rw [Nat.sub_self]
      rfl
    · exact getD_out (by simp; omega)

theorem parts_nought {lo up : List Bool} {k : Nat} (P : Parts lo up k) (h : lo = [] ∨ up = [] ∨ sless lo up) : lo.getD k false = false := by
  rcases h with rfl | rfl | ⟨d, h1, h2, h3⟩
  · exact getD_out (by simp)
  · have := P.part
    rw [show belowB [] k = true from by unfold belowB; rw [if_neg (by simp), if_pos (by simp)]] at this
    cases hb : lo.getD k false
    · rfl
    · exact absurd hb this
  · cases hb : lo.getD k false
    · rfl
    · exfalso
      have hp := P.part
      have hdl := getD_lt h3
      rw [hb] at hp
      have hbk : belowB up k = false := by
        cases e : belowB up k
        · rfl
        · exact absurd e.symm hp
      unfold belowB at hbk
      rcases Nat.lt_trichotomy k d with hk | hk | hk
      · rw [if_neg (by omega), if_neg (by omega), ← h1 k hk, hb] at hbk
        cases hbk
      · subst hk; rw [h2] at hb; cases hb
      · have ha := P.along d hk
        rw [h2] at ha
        unfold belowB at ha
        split at ha
        · rw [if_neg (by omega), if_pos (by omega)] at hbk
          cases hbk
        · rw [if_neg (by omega), h3] at ha
          cases ha

theorem mid_above {lo : List Bool} {k : Nat} (h : lo.getD k false = false) : sless lo (preS lo k ++ [true]) :=
  ⟨k, fun i hi => by rw [mid_getD, if_pos hi], h, by rw [mid_getD, if_neg (by omega), if_pos rfl]⟩

theorem mid_below {lo up : List Bool} {k : Nat} (P : Parts lo up k) (h : lo.getD k false = false) (hu : okS up) : sless (preS lo k ++ [true]) up := by
  obtain ⟨u0, u1⟩ := okS_last hu
  have hbk : belowB up k = true := by
    cases e : belowB up k
    · exact absurd (h.trans e.symm) P.part
    · rfl
  have hal : ∀ i, i < k → i < up.length - 1 → (preS lo k ++ [true]).getD i false = up.getD i false := fun i hi hj => by
    rw [mid_getD, if_pos hi, P.along i hi]
    unfold belowB
    rw [if_neg (by omega), if_neg (by omega)]
  by_cases hk : k < up.length - 1
  · have huk : up.getD k false = true := by
      unfold belowB at hbk
      rw [if_neg (by omega), if_neg (by omega)] at hbk
      exact hbk
    obtain ⟨e, _, he2, he3⟩ := leastN (fun i => k < i ∧ up.getD i false = true) (up.length - 1) ⟨hk, u1⟩
    refine ⟨e, fun i hi => ?_, by rw [mid_getD, if_neg (by omega), if_neg (by omega)], he2.2⟩
    rcases Nat.lt_trichotomy i k with hik | hik | hik
    · exact hal i hik (by omega)
    · subst hik; rw [mid_getD, if_neg (by omega), if_pos rfl, huk]
    · rw [mid_getD, if_neg (by omega), if_neg (by omega)]
      cases hx : up.getD i false
      · rfl
      · exact absurd ⟨hik, hx⟩ (he3 i hi)
  · have hk2 : up.length - 1 < k := by
      rcases Nat.lt_or_ge (up.length - 1) k with h' | h'
      · exact h'
      · exfalso
        have : k + 1 = up.length := by omega
        unfold belowB at hbk
        rw [if_pos this] at hbk
        cases hbk
    refine ⟨up.length - 1, fun i hi => hal i (by omega) hi, ?_, u1⟩
    rw [mid_getD, if_pos hk2, P.along _ hk2]
    unfold belowB
    rw [if_pos (by omega)]

/-- A parent stands ahead of its children .. -/
theorem parent_less {l m : List UInt8} {pp qq : List (List Bool)} (L : Lab l pp) (M : Lab m (pp ++ qq)) (hq : qq ≠ []) : compareBytes l m = -1 := by
  have h1 := L.rep
  have h2 := M.rep
  refine cb_rows h1 h2 ⟨(enc pp).length, fun i hi => ?_, getD_out (Nat.le_refl _), ?_⟩
  · rw [enc_append, getD_append, if_pos hi]
  · rw [enc_append, getD_append, if_neg (by omega), Nat.sub_self]
    rcases enc_head qq (fun s hs => M.ok s (by simp [hs])) with e | e
    · exact absurd e hq
    · cases hx : enc qq with
      | nil => rw [hx] at e; cases e
      | cons x r => rw [hx] at e; simp at e; subst e; rfl
/-- .. and they ahead of its end. -/
theorem end_less {m e : List UInt8} {pp qq : List (List Bool)} (hp : pp ≠ []) (M : Lab m (pp ++ qq)) (E : Rep (mkS e) (endR pp).length (endR pp)) : compareBytes m e = -1 := by
  have h2 := M.rep
  have hl := enc_last pp hp
  have h0 : 0 < (enc pp).length := by
    cases hx : enc pp with
    | nil => rw [hx] at hl; cases hl
    | cons x r => simp
  rw [List.getLast?_eq_getElem?] at hl
  refine cb_rows h2 E ⟨(enc pp).length - 1, fun i hi => ?_, ?_, ?_⟩
  · unfold endR
    rw [enc_append, getD_append, if_pos (by omega), getD_append, if_pos (by simp; omega)]
    rw [List.getD_eq_getElem?_getD, List.getD_eq_getElem?_getD, List.getElem?_dropLast, if_pos (by omega)]
  · rw [enc_append, getD_append, if_pos (by omega), List.getD_eq_getElem?_getD, hl]
    rfl
  · unfold endR
    rw [getD_append, if_neg (by simp), List.length_dropLast, Nat.sub_self]
    rfl

end Go.Proofs.YtddcilmeignlmaaGreatDoor
