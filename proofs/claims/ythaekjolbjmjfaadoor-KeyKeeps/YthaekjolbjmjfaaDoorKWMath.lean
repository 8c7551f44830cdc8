/-
  What a text says as a number: plain mathematics, no program.
-/
import Derived.Test.YthaekjolbjmjfaaDoorKMath
import Derived.Lib.ParseIntB
import Derived.Lib.ItoaNum
namespace Go.Proofs.YthaekjolbjmjfaaDoor
open Go.Lib

def isDig (c : UInt8) : Bool := decide (48 ≤ c.toNat) && decide (c.toNat ≤ 57)
def decV (l : List UInt8) : Nat := l.foldl (fun a c => 10 * a + (c.toNat - 48)) 0
theorem decV_snoc (l : List UInt8) (c : UInt8) : decV (l ++ [c]) = 10 * decV l + (c.toNat - 48) := by simp [decV, List.foldl_append]
theorem foldl_dec (l : List UInt8) (a : Nat) : l.foldl (fun a c => 10 * a + (c.toNat - 48)) a = a * 10 ^ l.length + decV l := by
  induction l generalizing a with
  | nil => simp [decV]
  | cons c l ih =>
    unfold decV
    rw [List.foldl_cons, List.foldl_cons, ih, ih, List.length_cons, Nat.pow_succ]
    have e1 : (10 * a + (c.toNat - 48)) * 10 ^ l.length = a * (10 ^ l.length * 10) + (c.toNat - 48) * 10 ^ l.length := by
      rw [Nat.add_mul]
      congr 1
      rw [Nat.mul_comm 10 a, Nat.mul_assoc, Nat.mul_comm 10]
    rw [e1]
    simp
    omega
theorem decV_cons (c : UInt8) (l : List UInt8) : decV (c :: l) = (c.toNat - 48) * 10 ^ l.length + decV l := by
  show List.foldl _ (10 * 0 + (c.toNat - 48)) l = _
  rw [foldl_dec]
  simp
theorem isDig_iff (c : UInt8) : isDig c = true ↔ 48 ≤ c.toNat ∧ c.toNat ≤ 57 := by simp [isDig]
theorem decV_lt (l : List UInt8) (h : l.all isDig = true) : decV l < 10 ^ l.length := by
  induction l with
  | nil => simp [decV]
  | cons c l ih =>
    simp only [List.all_cons, Bool.and_eq_true] at h
    have h1 := (isDig_iff c).1 h.1
    have h2 := ih h.2
    rw [decV_cons, List.length_cons, Nat.pow_succ]
    have : (c.toNat - 48) * 10 ^ l.length ≤ 9 * 10 ^ l.length := Nat.mul_le_mul_right _ (by omega)
    omega
theorem parse_dig (l : List UInt8) (h : l.all isDig = true) : ∀ acc, acc * 10 ^ l.length + decV l < 10 ^ 19 → parseUintM (2 ^ 64 - 1) acc l = .ok (acc * 10 ^ l.length + decV l) := by
  induction l with
  | nil => intro acc _; simp [parseUintM, decV]
  | cons c l ih =>
    intro acc hlt
    simp only [List.all_cons, Bool.and_eq_true] at h
    have h1 := (isDig_iff c).1 h.1
    have hp : 0 < 10 ^ l.length := Nat.pow_pos (by omega)
    have e : acc * 10 ^ (c :: l).length + decV (c :: l) = (acc * 10 + (c.toNat - 48)) * 10 ^ l.length + decV l := by
      rw [decV_cons, List.length_cons, Nat.pow_succ, Nat.add_mul, Nat.mul_assoc, Nat.mul_comm 10, Nat.add_assoc]
    rw [e] at hlt ⊢
    have hb : acc * 10 + (c.toNat - 48) < 10 ^ 19 := by
      have : acc * 10 + (c.toNat - 48) ≤ (acc * 10 + (c.toNat - 48)) * 10 ^ l.length := Nat.le_mul_of_pos_right _ hp
      omega
    unfold parseUintM
    rw [if_pos h1, if_neg (by omega), if_neg (by omega)]
    exact ih h.2 _ hlt

theorem dec_all (u : Nat) : (decDigits u).all isDig = true := by
  induction u using Nat.strongRecOn with
  | _ u ih =>
    rw [decDigits]
    split
    · simp [isDig]; omega
    · next h =>
      rw [List.all_append, ih (u / 10) (by omega)]
      simp [isDig]; omega
theorem dec_val (u : Nat) : decV (decDigits u) = u := by
  induction u using Nat.strongRecOn with
  | _ u ih =>
    rw [decDigits]
    split
    · simp [decV]; omega
    · next h =>
      rw [decV_snoc, ih (u / 10) (by omega)]
      simp; omega
theorem head_app (l m : List UInt8) (h : l ≠ []) : (l ++ m).head? = l.head? := by
  cases l with
  | nil => exact absurd rfl h
  | cons a l => rfl
theorem dec_ne (u : Nat) : decDigits u ≠ [] := by
  rw [decDigits]
  split <;> simp
theorem dec_head (u : Nat) (h0 : u ≠ 0) : (decDigits u).head? ≠ some 48 := by
  induction u using Nat.strongRecOn with
  | _ u ih =>
    rw [decDigits]
    split
    · next h =>
      simp
      intro e
      have := congrArg UInt8.toNat e
      simp at this
      omega
    · next h =>
      rw [head_app _ _ (dec_ne _)]
      exact ih (u / 10) (by omega) (by omega)
theorem dec_len (u : Nat) (h : u < 10 ^ 19) : (decDigits u).length ≤ 19 := by
  rw [decDigits_length]
  rcases Nat.lt_or_ge 19 (nDigits u) with k | k
  · exfalso
    have : 10 ^ (nDigits u - 1) ≤ u ∨ u = 0 := by
      clear h k
      induction u using Nat.strongRecOn with
      | _ u ih =>
        by_cases h : u < 10
        · rw [nDigits_small h]
          simp; omega
        · rw [nDigits_big h]
          rcases ih (u / 10) (by omega) with q | q
          · left
            have := nDigits_pos (u / 10)
            rw [show nDigits (u / 10) + 1 - 1 = (nDigits (u / 10) - 1) + 1 by omega, Nat.pow_succ]
            omega
          · omega
    rcases this with q | q
    · have : 10 ^ 19 ≤ 10 ^ (nDigits u - 1) := Nat.pow_le_pow_right (by omega) (by omega)
      omega
    · subst q
      rw [nDigits_small (by omega)] at k
      omega
  · exact k
theorem dec_back : ∀ (d : List UInt8), d.all isDig = true → d ≠ [] → (d.head? = some 48 → d = [48]) → decDigits (decV d) = d := by
  intro d
  induction d using snoc_rec with
  | h0 => intro _ h; exact absurd rfl h
  | h1 l c ih =>
    intro ha _ hh
    rw [List.all_append, Bool.and_eq_true] at ha
    have hc : 48 ≤ c.toNat ∧ c.toNat ≤ 57 := (isDig_iff c).1 (by simpa using ha.2)
    have ec : UInt8.ofNat (48 + (c.toNat - 48)) = c := by
      apply UInt8.toNat_inj.1
      simp
      omega
    by_cases hl : l = []
    · subst hl
      rw [decV_snoc]
      simp only [decV, List.foldl_nil, List.nil_append]
      rw [decDigits_one (by omega)]
      simp only [Nat.mul_zero, Nat.zero_add, ec]
    · have hne : l.head? ≠ some 48 := by
        intro e
        have := hh (by rw [head_app _ _ hl]; exact e)
        have := congrArg List.length this
        simp at this
        exact hl this
      have h2 := ih ha.1 hl (fun e => absurd e hne)
      have hpos : 1 ≤ decV l := by
        rcases Nat.eq_zero_or_pos (decV l) with z | z
        · rw [z] at h2
          have : decDigits 0 = [48] := by rw [decDigits_one (by omega)]; rfl
          rw [this] at h2
          rw [← h2] at hne
          exact absurd rfl hne
        · exact z
      rw [decV_snoc, decDigits, dif_neg (by omega), show (10 * decV l + (c.toNat - 48)) / 10 = decV l by omega, show (10 * decV l + (c.toNat - 48)) % 10 = c.toNat - 48 by omega, h2, ec]

/-! ### the number that a text says -/
def negT (l : List UInt8) : Bool := l.head? == some 45
def magT (l : List UInt8) : List UInt8 := if negT l then l.tail else l
def refW (l : List UInt8) : Option Int :=
  if magT l = [] ∨ 19 < (magT l).length ∨ ((magT l).head? = some 48 ∧ (1 < (magT l).length ∨ negT l = true)) then none
  else if (magT l).all isDig then
    if negT l then if decV (magT l) ≤ 2 ^ 63 then some (-(decV (magT l) : Int)) else none
    else if decV (magT l) < 2 ^ 63 then some (decV (magT l) : Int) else none
  else none
def wholeW (l : List UInt8) : Option Int :=
  match parseIntB 64 l with
  | .ok v => if itoa v = l then some v else none
  | _ => none

theorem ref_whole {l : List UInt8} {v : Int} (h : refW l = some v) : parseIntB 64 l = .ok v ∧ itoa v = l := by
  unfold refW at h
  by_cases hb : magT l = [] ∨ 19 < (magT l).length ∨ ((magT l).head? = some 48 ∧ (1 < (magT l).length ∨ negT l = true))
  · rw [if_pos hb] at h; cases h
  rw [if_neg hb] at h
  by_cases hd : (magT l).all isDig = true
  rotate_left
  · rw [if_neg hd] at h; cases h
  rw [if_pos hd] at h
  have hne : magT l ≠ [] := fun e => hb (Or.inl e)
  have hlen : (magT l).length ≤ 19 := by
    rcases Nat.lt_or_ge 19 (magT l).length with k | k
    · exact absurd (Or.inr (Or.inl k)) hb
    · exact k
  have hval := decV_lt _ hd
  have h19 : decV (magT l) < 10 ^ 19 := Nat.lt_of_lt_of_le hval (Nat.pow_le_pow_right (by omega) hlen)
  have hp := parse_dig _ hd 0 (by simpa using h19)
  simp only [Nat.zero_mul, Nat.zero_add] at hp
  have hback : decDigits (decV (magT l)) = magT l := by
    apply dec_back _ hd hne
    intro e
    match hm : magT l, hne with
    | [x], _ => rw [hm] at e; simp at e; rw [e]
    | x :: y :: r, _ => exact absurd (Or.inr (Or.inr ⟨e, Or.inl (by rw [hm]; simp)⟩)) hb
  cases hn : negT l
  · rw [hn] at h
    simp only [Bool.false_eq_true, if_false] at h
    have hm : magT l = l := by unfold magT; rw [hn]; simp
    rw [hm] at h hd hne hp hback
    by_cases hlt : decV l < 2 ^ 63
    rotate_left
    · rw [if_neg hlt] at h; cases h
    rw [if_pos hlt] at h
    cases h
    constructor
    · match l, hne, hn, hd, hp with
      | c :: r, _, hn, hd, hp =>
        have hc := (isDig_iff c).1 (by simp only [List.all_cons, Bool.and_eq_true] at hd; exact hd.1)
        unfold parseIntB
        simp only
        rw [if_neg (by omega)]
        unfold parseUintB
        rw [if_neg (by simp), hp]
        simp only
        rw [if_neg (by omega), if_neg (by omega), if_neg (by omega)]
    · unfold itoa
      rw [if_neg (by omega)]
      simpa using hback
  · rw [hn] at h
    simp only [if_true] at h
    by_cases hlt : decV (magT l) ≤ 2 ^ 63
    rotate_left
    · rw [if_neg hlt] at h; cases h
    rw [if_pos hlt] at h
    cases h
    obtain ⟨r, rfl⟩ : ∃ r, l = 45 :: r := by
      unfold negT at hn
      match l, hn with
      | c :: r, hn =>
        simp at hn
        exact ⟨r, by rw [hn]⟩
    have hm : magT (45 :: r) = r := by unfold magT; rw [hn]; simp
    rw [hm] at hd hne hp hback hlt ⊢
    have hpos : 1 ≤ decV r := by
      rcases Nat.eq_zero_or_pos (decV r) with z | z
      · exfalso
        rw [z] at hback
        have : decDigits 0 = [48] := by rw [decDigits_one (by omega)]; rfl
        rw [this] at hback
        exact hb (Or.inr (Or.inr ⟨by rw [hm, ← hback]; rfl, Or.inr hn⟩))
      · exact z
    constructor
    · unfold parseIntB
      simp only
      rw [if_pos (by decide)]
      unfold parseUintB
      rw [if_neg hne, hp]
      simp only
      rw [if_neg (by simp), if_neg (by simp; omega), if_pos (by decide)]
    · unfold itoa
      rw [if_pos (by omega)]
      simp [hback]

theorem whole_ref {l : List UInt8} {v : Int} (h : itoa v = l) (h0 : -9223372036854775808 ≤ v) (h1 : v ≤ 9223372036854775807) : refW l = some v := by
  subst h
  unfold itoa
  by_cases hv : v < 0
  · rw [if_pos hv]
    have hn : negT (45 :: decDigits v.natAbs) = true := rfl
    have hm : magT (45 :: decDigits v.natAbs) = decDigits v.natAbs := by unfold magT; rw [hn]; rfl
    unfold refW
    rw [hm, hn, if_neg, if_pos (dec_all _), if_pos rfl, dec_val, if_pos (by omega)]
    · congr 1; omega
    · rintro (e | e | e)
      · exact dec_ne _ e
      · have := dec_len v.natAbs (by omega); omega
      · exact dec_head _ (by omega) e.1
  · rw [if_neg hv]
    have hall := dec_all v.toNat
    have hn : negT (decDigits v.toNat) = false := by
      unfold negT
      match hd : decDigits v.toNat, dec_ne v.toNat with
      | c :: r, _ =>
        rw [hd] at hall
        have hc := (isDig_iff c).1 (by simp only [List.all_cons, Bool.and_eq_true] at hall; exact hall.1)
        simp
        intro e
        rw [e] at hc
        simp at hc
    have hm : magT (decDigits v.toNat) = decDigits v.toNat := by unfold magT; rw [hn]; simp
    unfold refW
    rw [hm, hn, if_neg, if_pos hall, if_neg (by simp), dec_val, if_pos (by omega)]
    · congr 1; omega
    · rintro (e | e | e)
      · exact dec_ne _ e
      · have := dec_len v.toNat (by omega); omega
      · rcases e.2 with k | k
        · by_cases hz : v.toNat = 0
          · rw [hz, decDigits_one (by omega)] at k
            simp at k
          · exact dec_head _ hz e.1
        · cases k

end Go.Proofs.YthaekjolbjmjfaaDoor
