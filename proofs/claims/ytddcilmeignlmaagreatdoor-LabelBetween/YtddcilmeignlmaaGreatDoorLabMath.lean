/-
  Labels as rows of bits: steps, how they are written, and how they are read.
-/
import Derived.Test.YtddcilmeignlmaaGreatDoorMath
namespace Go.Proofs.YtddcilmeignlmaaGreatDoor

/-- A step's bits as they are written, but for the end. -/
def dbl (s : List Bool) : List Bool := s.flatMap fun b => [true, b]
/-- A step as it is written. -/
def wr (s : List Bool) : List Bool := dbl s ++ [false]
def enc (ss : List (List Bool)) : List Bool := ss.flatMap wr
def okS (s : List Bool) : Prop := s.getLast? = some true

theorem dbl_nil : dbl [] = [] := rfl
theorem dbl_append (s t : List Bool) : dbl (s ++ t) = dbl s ++ dbl t := by simp [dbl]
theorem dbl_length (s : List Bool) : (dbl s).length = 2 * s.length := by
  induction s with
  | nil => rfl
  | cons b s ih => simp [dbl] at ih ⊢; omega
theorem wr_length (s : List Bool) : (wr s).length = 2 * s.length + 1 := by simp [wr, dbl_length]
theorem enc_nil : enc [] = [] := rfl
theorem enc_append (a b : List (List Bool)) : enc (a ++ b) = enc a ++ enc b := by simp [enc]
theorem enc_one (s : List Bool) : enc [s] = wr s := by simp [enc]
theorem enc_cons (s : List Bool) (r : List (List Bool)) : enc (s :: r) = wr s ++ enc r := by simp [enc]
theorem okS.ne {s : List Bool} (h : okS s) : s ≠ [] := by rintro rfl; cases h

/-- Reading: bits that are still to come, the step so far, the steps so far; what is left over, in the end. -/
def go : List Bool → List Bool → List (List Bool) → Option (List (List Bool) × List Bool)
  | true :: b :: r, st, acc => go r (st ++ [b]) acc
  | false :: r, st, acc => if st = [] then some (acc, false :: r) else if st.getLast? = some true then go r [] (acc ++ [st]) else none
  | [true], _, _ => none
  | [], st, acc => if st = [] then some (acc, []) else none

theorem go_sound : ∀ (r st : List Bool) (acc ss : List (List Bool)) (rest : List Bool), go r st acc = some (ss, rest) → (∀ s ∈ acc, okS s) → enc acc ++ dbl st ++ r = enc ss ++ rest ∧ (∀ s ∈ ss, okS s) ∧ rest.head? ≠ some true
  | true :: b :: r, st, acc, ss, rest, h, ho => by
    rw [go] at h
    obtain ⟨h1, h2⟩ := go_sound r (st ++ [b]) acc ss rest h ho
    refine ⟨?_, h2⟩
    rw [← h1, dbl_append]
    simp [dbl]
  | false :: r, st, acc, ss, rest, h, ho => by
    rw [go] at h
    by_cases e : st = []
    · subst e
      simp at h
      obtain ⟨rfl, rfl⟩ := h
      exact ⟨by simp [dbl], ho, by simp⟩
    · rw [if_neg e] at h
      by_cases e2 : st.getLast? = some true
      · rw [if_pos e2] at h
        obtain ⟨h1, h2⟩ := go_sound r [] (acc ++ [st]) ss rest h (by
          intro s hs
          rcases List.mem_append.1 hs with hs | hs
          · exact ho s hs
          · simp at hs; subst hs; exact e2)
        refine ⟨?_, h2⟩
        rw [← h1, enc_append, enc_one, wr]
        simp [dbl]
      · rw [if_neg e2] at h
        cases h
  | [true], st, acc, ss, rest, h, _ => by
    rw [go] at h
    cases h
  | [], st, acc, ss, rest, h, ho => by
    rw [go] at h
    by_cases e : st = []
    · subst e
      simp at h
      obtain ⟨rfl, rfl⟩ := h
      exact ⟨by simp [dbl], ho, by simp⟩
    · rw [if_neg e] at h
      cases h

theorem go_dbl : ∀ (s r st : List Bool) (acc : List (List Bool)), go (dbl s ++ r) st acc = go r (st ++ s) acc
  | [], r, st, acc => by simp [dbl]
  | b :: s, r, st, acc => by
    have : dbl (b :: s) ++ r = true :: b :: (dbl s ++ r) := by simp [dbl]
    rw [this, go, go_dbl s r (st ++ [b]) acc]
    simp

theorem go_wr (s r : List Bool) (acc : List (List Bool)) (h : okS s) : go (wr s ++ r) [] acc = go r [] (acc ++ [s]) := by
  rw [wr, List.append_assoc, go_dbl, List.nil_append]
  show go (false :: r) s acc = _
  rw [go, if_neg h.ne, if_pos (show s.getLast? = some true from h)]

theorem go_enc : ∀ (ss : List (List Bool)) (r : List Bool) (acc : List (List Bool)), (∀ s ∈ ss, okS s) → go (enc ss ++ r) [] acc = go r [] (acc ++ ss)
  | [], r, acc, _ => by simp [enc]
  | s :: ss, r, acc, h => by
    rw [enc_cons, List.append_assoc, go_wr s _ acc (h s (by simp)), go_enc ss r (acc ++ [s]) (fun t ht => h t (by simp [ht]))]
    simp

theorem go_end (r : List Bool) (acc : List (List Bool)) (h : r.head? ≠ some true) : go r [] acc = some (acc, r) := by
  match r, h with
  | [], _ => rw [go]; simp
  | false :: r, _ => rw [go]; simp
  | true :: r, h => simp at h

/-- A label's bytes are those of these steps. -/
structure Lab (l : List UInt8) (ss : List (List Bool)) : Prop where
  ok : ∀ s ∈ ss, okS s
  most : (enc ss).length ≤ 1024
  rep : Rep (mkS l) (enc ss).length (enc ss)

theorem enc_head (ss : List (List Bool)) (h : ∀ s ∈ ss, okS s) : ss = [] ∨ (enc ss).head? = some true := by
  cases ss with
  | nil => exact Or.inl rfl
  | cons s ss =>
    right
    cases s with
    | nil => exact absurd rfl (h [] (by simp)).ne
    | cons b s => simp [enc, wr, dbl]

end Go.Proofs.YtddcilmeignlmaaGreatDoor
