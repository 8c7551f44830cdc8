/-
  Keys: numbers and rows as bytes: plain mathematics, no program.
-/
import Derived.Test.YtopaeomjndblkaaGreatMath
namespace Go.Proofs.YtopaeomjndblkaaGreat

/-! ### the order of bytes -/
theorem less_irrefl : ∀ l : List UInt8, Op.bytesLess l l = false
  | [] => rfl
  | a :: l => by simp [Op.bytesLess, less_irrefl l]
theorem less_cons_eq (a : UInt8) (l m : List UInt8) : Op.bytesLess (a :: l) (a :: m) = Op.bytesLess l m := by simp [Op.bytesLess]
theorem less_cons_lt {a b : UInt8} (h : a < b) (l m : List UInt8) : Op.bytesLess (a :: l) (b :: m) = true := by simp [Op.bytesLess, h]
theorem less_cons_gt {a b : UInt8} (h : b < a) (l m : List UInt8) : Op.bytesLess (a :: l) (b :: m) = false := by
  have h1 : ¬ a < b := fun e => UInt8.lt_asymm h e
  have h2 : a ≠ b := fun e => by subst e; exact UInt8.lt_irrefl _ h
  simp [Op.bytesLess, h1, h2]
theorem less_pre (p l m : List UInt8) : Op.bytesLess (p ++ l) (p ++ m) = Op.bytesLess l m := by
  induction p with
  | nil => rfl
  | cons a p ih => rw [List.cons_append, List.cons_append, less_cons_eq, ih]

/-! ### a row's bytes -/
def esc : List UInt8 → List UInt8
  | [] => []
  | b :: r => if b = 0 then 0 :: 255 :: esc r else b :: esc r
def putB (l : List UInt8) : List UInt8 := esc l ++ [0, 0]
theorem esc_append (l m : List UInt8) : esc (l ++ m) = esc l ++ esc m := by
  induction l with
  | nil => rfl
  | cons b r ih =>
    rw [List.cons_append]
    show (if b = 0 then 0 :: 255 :: esc (r ++ m) else b :: esc (r ++ m)) = (if b = 0 then 0 :: 255 :: esc r else b :: esc r) ++ esc m
    split <;> simp [ih]
theorem esc_zero : esc [0] = [0, 255] := rfl
theorem esc_other {b : UInt8} (h : b ≠ 0) : esc [b] = [b] := by simp [esc, h]
theorem esc_length_le (l : List UInt8) : (esc l).length ≤ 2 * l.length := by
  induction l with
  | nil => simp [esc]
  | cons b r ih => unfold esc; split <;> simp <;> omega
theorem esc_take_step (l : List UInt8) (j : Nat) (h : j < l.length) : esc (l.take (j + 1)) = esc (l.take j) ++ (if l[j] = 0 then [0, 255] else [l[j]]) := by
  rw [List.take_succ_eq_append_getElem h, esc_append]
  split
  · next e => rw [e]; rfl
  · next e => rw [esc_other e]

theorem u8_pos {b : UInt8} (h : b ≠ 0) : (0 : UInt8) < b := by
  rw [UInt8.lt_iff_toNat_lt]
  have : b.toNat ≠ 0 := fun e => h (UInt8.toNat_inj.1 (by simpa using e))
  simp
  omega

/-- Rows stand as their bytes do, whatever stands behind these. -/
theorem putB_less : ∀ (a b m o : List UInt8), a ≠ b → Op.bytesLess (putB a ++ m) (putB b ++ o) = Op.bytesLess a b
  | [], [], _, _, h => absurd rfl h
  | [], y :: b, m, o, _ => by
    by_cases hy : y = 0
    · subst hy
      simp only [putB, esc, if_true, List.nil_append, List.cons_append]
      rw [less_cons_eq, less_cons_lt (by decide)]
      rfl
    · simp only [putB, esc, if_neg hy, List.nil_append, List.cons_append]
      rw [less_cons_lt (u8_pos hy)]
      rfl
  | x :: a, [], m, o, _ => by
    by_cases hx : x = 0
    · subst hx
      simp only [putB, esc, if_true, List.nil_append, List.cons_append]
      rw [less_cons_eq, less_cons_gt (by decide)]
      rfl
    · simp only [putB, esc, if_neg hx, List.nil_append, List.cons_append]
      rw [less_cons_gt (u8_pos hx)]
      rfl
  | x :: a, y :: b, m, o, h => by
    by_cases e : x = y
    · subst e
      have h2 : a ≠ b := fun e => h (by rw [e])
      have ih := putB_less a b m o h2
      unfold putB at ih ⊢
      rw [less_cons_eq]
      unfold esc
      split
      · simp only [List.cons_append]; rw [less_cons_eq, less_cons_eq]; exact ih
      · simp only [List.cons_append]; rw [less_cons_eq]; exact ih
    · by_cases hx : x = 0
      · subst hx
        have hy : y ≠ 0 := fun k => e k.symm
        unfold putB esc
        rw [if_pos rfl, if_neg hy]
        simp only [List.cons_append]
        rw [less_cons_lt (u8_pos hy), less_cons_lt (u8_pos hy)]
      · by_cases hy : y = 0
        · subst hy
          unfold putB esc
          rw [if_neg hx, if_pos rfl]
          simp only [List.cons_append]
          rw [less_cons_gt (u8_pos hx), less_cons_gt (u8_pos hx)]
        · unfold putB esc
          rw [if_neg hx, if_neg hy]
          simp only [List.cons_append]
          rcases UInt8.lt_or_lt_of_ne e with k | k
          · rw [less_cons_lt k, less_cons_lt k]
          · rw [less_cons_gt k, less_cons_gt k]

/-- No row's bytes begin another's. -/
theorem putB_begins : ∀ (a b m : List UInt8), putB a ++ m = putB b → a = b
  | [], [], _, _ => rfl
  | [], y :: b, m, h => by
    by_cases hy : y = 0
    · subst hy; simp [putB, esc] at h
    · simp [putB, esc, hy] at h
      exact absurd h.1.symm hy
  | x :: a, [], m, h => by
    by_cases hx : x = 0
    · subst hx; simp [putB, esc] at h
    · simp [putB, esc, hx] at h
  | x :: a, y :: b, m, h => by
    by_cases hx : x = 0
    · subst hx
      by_cases hy : y = 0
      · subst hy
        simp [putB, esc] at h
        rw [putB_begins a b m (by simpa [putB] using h)]
      · simp [putB, esc, hy] at h
        exact absurd h.1.symm hy
    · by_cases hy : y = 0
      · subst hy; simp [putB, esc, hx] at h
      · simp [putB, esc, hx, hy] at h
        rw [putB_begins a b m (by simpa [putB] using h.2), h.1]
theorem putB_inj {a b : List UInt8} (h : putB a = putB b) : a = b := putB_begins a b [] (by simpa using h)
theorem putB_pre {a b : List UInt8} (h : putB a <+: putB b) : a = b := by
  obtain ⟨m, h⟩ := h
  exact putB_begins a b m h

/-! ### what a row's bytes say -/
def getB : List UInt8 → Option (List UInt8 × Nat)
  | [] => none
  | [_] => none
  | b :: c :: r =>
    if b = 0 then
      if c = 0 then some ([], 2) else if c = 255 then (getB r).map fun p => (0 :: p.1, p.2 + 2) else none
    else (getB (c :: r)).map fun p => (b :: p.1, p.2 + 1)
def rowGot (o : Option (List UInt8 × Nat)) : List UInt8 := (o.map (·.1)).getD []
def lenGot (o : Option (List UInt8 × Nat)) : Nat := (o.map (·.2)).getD 0

/-- How far a row has been read: what is got is what has been read and what is got of the rest. -/
def Upto (l row : List UInt8) (i : Nat) : Prop := getB l = (getB (l.drop i)).map fun p => (row ++ p.1, p.2 + i)
theorem Upto.start (l : List UInt8) : Upto l [] 0 := by unfold Upto; rw [List.drop_zero]; cases getB l <;> simp
theorem Upto.other {l row : List UInt8} {i : Nat} (h : Upto l row i) (hi : i < l.length) (hb : l[i] ≠ 0) : Upto l (row ++ [l[i]]) (i + 1) := by
  unfold Upto at h ⊢
  rw [h, List.drop_eq_getElem_cons hi]
  cases hd : l.drop (i + 1) with
  | nil => rfl
  | cons c r =>
    simp only [getB, if_neg hb, Option.map_map]
    congr 1
    funext p
    simp [Function.comp]
    omega
theorem Upto.zero {l row : List UInt8} {i : Nat} (h : Upto l row i) (hi : i + 1 < l.length) (hb : l[i] = 0) (hc : l[i + 1] = 255) : Upto l (row ++ [0]) (i + 2) := by
  unfold Upto at h ⊢
  rw [h, List.drop_eq_getElem_cons (show i < l.length by omega), List.drop_eq_getElem_cons hi]
  simp only [getB, hb, hc, if_true]
  rw [if_neg (by decide)]
  simp only [Option.map_map]
  congr 1
  funext p
  simp [Function.comp]
  omega
theorem Upto.ends {l row : List UInt8} {i : Nat} (h : Upto l row i) (hi : i + 1 < l.length) (hb : l[i] = 0) (hc : l[i + 1] = 0) : getB l = some (row, i + 2) := by
  unfold Upto at h
  rw [h, List.drop_eq_getElem_cons (show i < l.length by omega), List.drop_eq_getElem_cons hi]
  simp [getB, hb, hc]
  omega
theorem Upto.bad {l row : List UInt8} {i : Nat} (h : Upto l row i) (hi : i + 1 < l.length) (hb : l[i] = 0) (hc : l[i + 1] ≠ 0) (hd : l[i + 1] ≠ 255) : getB l = none := by
  unfold Upto at h
  rw [h, List.drop_eq_getElem_cons (show i < l.length by omega), List.drop_eq_getElem_cons hi]
  simp [getB, hb, hc, hd]
theorem Upto.out {l row : List UInt8} {i : Nat} (h : Upto l row i) (hi : l.length ≤ i + 1) : getB l = none := by
  unfold Upto at h
  rw [h]
  have : (l.drop i).length ≤ 1 := by simp; omega
  match hd : l.drop i, this with
  | [], _ => rfl
  | [_], _ => rfl
  | _ :: _ :: _, k => simp at k

theorem getB_putB (l m : List UInt8) : getB (putB l ++ m) = some (l, (putB l).length) := by
  induction l with
  | nil => simp [putB, esc, getB]
  | cons b r ih =>
    by_cases hb : b = 0
    · subst hb
      simp only [putB, esc, if_true, List.cons_append] at ih ⊢
      simp only [getB, if_true]
      rw [if_neg (by decide), ih]
      simp
    · simp only [putB, esc, if_neg hb, List.cons_append] at ih ⊢
      cases hq : esc r ++ [0, 0] ++ m with
      | nil => simp at hq
      | cons c t =>
        rw [hq] at ih
        simp only [getB, if_neg hb]
        rw [ih]
        simp
theorem getB_back : ∀ (l x : List UInt8) (k : Nat), getB l = some (x, k) → k ≤ l.length ∧ putB x = l.take k
  | [], _, _, h => by simp [getB] at h
  | [_], _, _, h => by simp [getB] at h
  | b :: c :: r, x, k, h => by
    unfold getB at h
    split at h
    · next hb =>
      subst hb
      split at h
      · next hc =>
        subst hc
        simp at h
        obtain ⟨rfl, rfl⟩ := h
        simp [putB, esc]
      · split at h
        · next hc =>
          subst hc
          cases hg : getB r with
          | none => rw [hg] at h; simp at h
          | some p =>
            rw [hg] at h
            simp at h
            obtain ⟨rfl, rfl⟩ := h
            obtain ⟨h1, h2⟩ := getB_back r p.1 p.2 hg
            refine ⟨by simp; omega, ?_⟩
            unfold putB at h2 ⊢
            simp [esc, h2]
        · simp at h
    · next hb =>
      cases hg : getB (c :: r) with
      | none => rw [hg] at h; simp at h
      | some p =>
        rw [hg] at h
        simp at h
        obtain ⟨rfl, rfl⟩ := h
        obtain ⟨h1, h2⟩ := getB_back (c :: r) p.1 p.2 hg
        refine ⟨by simp at h1 ⊢; omega, ?_⟩
        unfold putB at h2 ⊢
        simp [esc, hb, h2]
theorem getB_row_le {l x : List UInt8} {k : Nat} (h : getB l = some (x, k)) : x.length ≤ l.length := by
  obtain ⟨h1, h2⟩ := getB_back l x k h
  have : x.length ≤ (esc x).length := by
    clear h h2
    induction x with
    | nil => simp
    | cons b r ih => unfold esc; split <;> simp <;> omega
  have h3 : (putB x).length = (l.take k).length := by rw [h2]
  simp [putB] at h3
  omega

/-! ### a number's bytes -/
def be : Nat → Nat → List UInt8
  | 0, _ => []
  | n + 1, u => UInt8.ofNat (u / 256 ^ n) :: be n u
def ofBe (l : List UInt8) : Nat := l.foldl (fun a b => 256 * a + b.toNat) 0
theorem be_length (n u : Nat) : (be n u).length = n := by
  induction n with
  | zero => rfl
  | succ n ih => simp [be, ih]
theorem be_at (n u i : Nat) (h : i < n) : (be n u)[i]? = some (UInt8.ofNat (u / 256 ^ (n - 1 - i))) := by
  induction n generalizing i with
  | zero => omega
  | succ n ih =>
    cases i with
    | zero => simp [be]
    | succ i =>
      simp only [be, List.getElem?_cons_succ]
      rw [ih i (by omega)]
      congr 4
      omega
theorem be_mod (n u m : Nat) (h : n ≤ m) : be n (u % 256 ^ m) = be n u := by
  induction n with
  | zero => rfl
  | succ n ih =>
    simp only [be]
    rw [ih (by omega)]
    congr 1
    apply UInt8.toNat_inj.1
    simp only [UInt8.toNat_ofNat']
    obtain ⟨d, rfl⟩ : ∃ d, m = n + 1 + d := ⟨m - (n + 1), by omega⟩
    rw [Nat.pow_add, Nat.pow_succ, Nat.mul_assoc, Nat.mod_mul_right_div_self, Nat.mod_mul_right_mod]
theorem be_less : ∀ (n u v : Nat) (m o : List UInt8), u < 256 ^ n → v < 256 ^ n → u ≠ v → Op.bytesLess (be n u ++ m) (be n v ++ o) = decide (u < v)
  | 0, u, v, m, o, h1, h2, h => by simp at h1 h2; omega
  | n + 1, u, v, m, o, h1, h2, h => by
    simp only [be, List.cons_append]
    have q1 : u / 256 ^ n < 256 := by rw [Nat.pow_succ] at h1; exact Nat.div_lt_of_lt_mul h1
    have q2 : v / 256 ^ n < 256 := by rw [Nat.pow_succ] at h2; exact Nat.div_lt_of_lt_mul h2
    have hp : 0 < 256 ^ n := Nat.pow_pos (by omega)
    have t1 : (UInt8.ofNat (u / 256 ^ n)).toNat = u / 256 ^ n := by simp; omega
    have t2 : (UInt8.ofNat (v / 256 ^ n)).toNat = v / 256 ^ n := by simp; omega
    have d1 := Nat.div_add_mod u (256 ^ n)
    have d2 := Nat.div_add_mod v (256 ^ n)
    have r1 := Nat.mod_lt u hp
    have r2 := Nat.mod_lt v hp
    rcases Nat.lt_trichotomy (u / 256 ^ n) (v / 256 ^ n) with k | k | k
    · rw [less_cons_lt (by rw [UInt8.lt_iff_toNat_lt, t1, t2]; exact k)]
      have : u < v := by
        have : 256 ^ n * (u / 256 ^ n + 1) ≤ 256 ^ n * (v / 256 ^ n) := Nat.mul_le_mul_left _ k
        rw [Nat.mul_add] at this
        omega
      simp [this]
    · rw [k, less_cons_eq, ← be_mod n u n (Nat.le_refl _), ← be_mod n v n (Nat.le_refl _), be_less n _ _ m o r1 r2 (by rw [k] at d1; omega)]
      rw [k] at d1
      congr 1
      apply propext
      omega
    · rw [less_cons_gt (by rw [UInt8.lt_iff_toNat_lt, t1, t2]; exact k)]
      have : v < u := by
        have : 256 ^ n * (v / 256 ^ n + 1) ≤ 256 ^ n * (u / 256 ^ n) := Nat.mul_le_mul_left _ k
        rw [Nat.mul_add] at this
        omega
      simp; omega
theorem ofBe_snoc (l : List UInt8) (b : UInt8) : ofBe (l ++ [b]) = 256 * ofBe l + b.toNat := by simp [ofBe, List.foldl_append]
theorem snoc_rec {P : List UInt8 → Prop} (h0 : P []) (h1 : ∀ l b, P l → P (l ++ [b])) (l : List UInt8) : P l := by
  rw [← List.reverse_reverse l]
  induction l.reverse with
  | nil => exact h0
  | cons b r ih => rw [List.reverse_cons]; exact h1 _ _ ih
theorem ofBe_lt (l : List UInt8) : ofBe l < 256 ^ l.length := by
  induction l using snoc_rec with
  | h0 => simp [ofBe]
  | h1 l b ih =>
    rw [ofBe_snoc, List.length_append, List.length_singleton, Nat.pow_succ]
    have := b.toNat_lt
    omega
theorem be_snoc (n u : Nat) : be (n + 1) u = be n (u / 256) ++ [UInt8.ofNat u] := by
  induction n generalizing u with
  | zero => simp [be]
  | succ n ih =>
    rw [be, ih]
    conv => rhs; rw [be]
    rw [List.cons_append]
    congr 2
    rw [Nat.div_div_eq_div_mul, Nat.pow_succ, Nat.mul_comm]
theorem ofBe_be (n u : Nat) : ofBe (be n u) = u % 256 ^ n := by
  induction n generalizing u with
  | zero => simp [be, ofBe, Nat.mod_one]
  | succ n ih =>
    rw [be_snoc, ofBe_snoc, ih, UInt8.toNat_ofNat', show 256 ^ (n + 1) = 256 * 256 ^ n by rw [Nat.pow_succ, Nat.mul_comm], Nat.mod_mul]
    omega
theorem be_ofBe (l : List UInt8) : be l.length (ofBe l) = l := by
  induction l using snoc_rec with
  | h0 => rfl
  | h1 l b ih =>
    rw [List.length_append, List.length_singleton, be_snoc, ofBe_snoc]
    have h1 : (256 * ofBe l + b.toNat) / 256 = ofBe l := by have := b.toNat_lt; omega
    rw [h1, ih]
    congr 2
    apply UInt8.toNat_inj.1
    rw [UInt8.toNat_ofNat']
    have := b.toNat_lt
    omega
end Go.Proofs.YtopaeomjndblkaaGreat
