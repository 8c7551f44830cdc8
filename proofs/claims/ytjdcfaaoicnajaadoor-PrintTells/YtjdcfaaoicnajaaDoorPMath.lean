/-
  What is printed of a right row: plain mathematics.
-/
import Derived.Test.YtjdcfaaoicnajaaDoorPEsc
import Derived.Test.YtjdcfaaoicnajaaDoorTGoM
import Derived.Test.YtjdcfaaoicnajaaDoorTSmall
namespace Go.Proofs.YtjdcfaaoicnajaaDoor
open Go.Lib

/-! ### children stand one behind the other -/
theorem child_next {t : List Nd} (O : Ords t) {k x : Nat} (hk : k < t.length) (hkx : k < x) (hxE : x < endOf t k) (hp : par t x = (k : Int)) :
    x < endOf t x ∧ endOf t x ≤ endOf t k ∧ (endOf t x = endOf t k ∨ par t (endOf t x) = (k : Int)) ∧ (∀ i, x < i → i < endOf t x → par t i ≠ (k : Int)) := by
  have Ek := endOf_is (t := t) (k := (k : Int)) (by omega) (by omega)
  have hxl : x < t.length := by have := Ek.le; omega
  have Ex := endOf_is (t := t) (k := (x : Int)) (by omega) (by omega)
  have h1 := Ex.gt
  have h2 := Ek.le
  have h3 := Ex.le
  have hle : endOf t x ≤ endOf t k := by
    rcases Nat.lt_or_ge (endOf t k) (endOf t x) with h | h
    · exfalso
      have h5 := Ek.stop (by omega)
      have h6 := Ex.all (endOf t k) (by omega) h
      omega
    · exact h
  refine ⟨by omega, hle, ?_, fun i hi hie e => ?_⟩
  · rcases Nat.lt_or_ge (endOf t x) (endOf t k) with h | h
    · right
      have h5 := Ex.stop (by omega)
      have h6 := Ek.all (endOf t x) (by omega) h
      have h7 := (O (endOf t x) (by omega)).2.2 x (by omega) h5
      omega
    · left; omega
  · have := Ex.all i (by omega) hie
    omega
/-- A node without children. -/
theorem end_leaf {t : List Nd} (G : Good t) {x : Nat} (hx : x < t.length) (h1 : knd t x ≠ 1) (h2 : knd t x ≠ 2) : endOf t x = x + 1 := by
  have E := endOf_is (t := t) (k := (x : Int)) (by omega) (by omega)
  have hg := E.gt
  have hl := E.le
  rcases Nat.lt_or_ge (x + 1) (endOf t x) with h | h
  · exfalso
    have h5 := E.all (x + 1) (by omega) h
    have o := (G (x + 1) (by omega)).1
    have hp : par t (x + 1) = (x : Int) := by have := o.2.1; omega
    have := par_kind o (G (x + 1) (by omega)).2 (by omega)
    rw [hp, Int.toNat_natCast] at this
    rcases this with e | e
    · exact h1 e
    · exact h2 e
  · omega
/-! ### attributes -/
def attE (t : List Nd) (k : Nat) : Nat := attrEnd t k (t.length - (k + 1)) (k + 1)
theorem attE_is {t : List Nd} {k : Nat} (hk : k < t.length) : AttrIs t k (attE t k) := by
  obtain ⟨h1, h2, h3, h4⟩ := attrEnd_spec t k (t.length - (k + 1)) (k + 1)
  have : attE t k = attrEnd t k (t.length - (k + 1)) (k + 1) := rfl
  rw [← this] at h1 h2 h3 h4
  exact ⟨by omega, by omega, fun j g1 g2 => h3 j (by omega) g2, fun g => h4 (by omega)⟩
theorem att_iff {t : List Nd} (G : Good t) {k i : Nat} (hk : k < t.length) (hi : i < t.length) (hp : par t i = (k : Int)) (h3 : knd t i = 3) : k < i ∧ i < attE t k := by
  have e := attrs_eq G hk (attE_is hk)
  have hm : i ∈ withTo t k true t.length := by
    unfold withTo
    rw [List.mem_filter]
    exact ⟨List.mem_range.2 hi, by simp [hp, h3]⟩
  rw [e, List.mem_range'_1] at hm
  have := (attE_is hk).gt
  omega
theorem att_end {t : List Nd} (G : Good t) {k : Nat} (hk : k < t.length) : attE t k ≤ endOf t k ∧ (attE t k = endOf t k ∨ par t (attE t k) = (k : Int)) := by
  have A := attE_is hk
  have E := endOf_is (t := t) (k := (k : Int)) (by omega) (by omega)
  have h1 := E.le
  have h2 := A.gt
  have h0 := E.gt
  have hle : attE t k ≤ endOf t k := by
    rcases Nat.lt_or_ge (endOf t k) (attE t k) with h | h
    · have h5 := E.stop (by have := A.le; omega)
      have h6 := (A.all (endOf t k) (by omega) h).1
      omega
    · exact h
  refine ⟨hle, ?_⟩
  rcases Nat.lt_or_ge (attE t k) (endOf t k) with h | h
  · right
    have o := (G (attE t k) (by omega)).1
    have h5 := E.all (attE t k) (by omega) h
    rcases Nat.lt_or_ge (k + 1) (attE t k) with h6 | h6
    · have h7 := A.all (attE t k - 1) (by omega) (by omega)
      have o1 := o.2.1
      by_cases e : par t (attE t k) = (k : Int)
      · exact e
      · exfalso
        by_cases e2 : par t (attE t k) < ((attE t k - 1 : Nat) : Int)
        · have := o.2.2 (attE t k - 1) (by omega) e2
          omega
        · have e3 : par t (attE t k) = ((attE t k - 1 : Nat) : Int) := by omega
          have := par_kind o (G (attE t k) (by omega)).2 (by omega)
          rw [e3, Int.toNat_natCast, h7.2] at this
          omega
    · have e : attE t k = k + 1 := by omega
      rw [e] at h5 o ⊢
      have := o.2.1
      omega
  · left; omega

/-! ### what is written -/
def leafO (K : Nat) (NM VL : ByteArray) : List UInt8 :=
  if K = 3 then bl NM ++ [61] ++ quoV VL else if K = 4 then escT VL else if K = 5 then [60, 33, 45, 45] ++ bl VL ++ [45, 45, 62] else if K = 6 then [60, 63] ++ bl NM ++ (if VL.toList.isEmpty then [] else [32] ++ bl VL) ++ [63, 62] else []
def runF (f : Nat → List UInt8) (t : List Nd) (k : Nat) : Nat → Nat → List UInt8
  | 0, _ => []
  | n + 1, x => if x < t.length ∧ par t x = (k : Int) then f x ++ runF f t k n (endOf t x) else []
def runO (f : Nat → List UInt8) (t : List Nd) (k x : Nat) : List UInt8 := runF f t k (t.length - x) x
theorem runF_eq (f : Nat → List UInt8) (t : List Nd) (k : Nat) : ∀ n m x, t.length - x ≤ n → t.length - x ≤ m → runF f t k n x = runF f t k m x
  | 0, 0, _, _, _ => rfl
  | 0, m + 1, x, h, _ => by
    rw [runF, runF, if_neg (by omega)]
  | n + 1, 0, x, _, h => by
    rw [runF, runF, if_neg (by omega)]
  | n + 1, m + 1, x, h1, h2 => by
    rw [runF, runF]
    by_cases c : x < t.length ∧ par t x = (k : Int)
    · have E := (endOf_is (t := t) (k := (x : Int)) (by omega) (by omega)).gt
      rw [if_pos c, if_pos c, runF_eq f t k n m _ (by omega) (by omega)]
    · rw [if_neg c, if_neg c]
theorem runO_step {f : Nat → List UInt8} {t : List Nd} {k x : Nat} (hx : x < t.length) (hp : par t x = (k : Int)) : runO f t k x = f x ++ runO f t k (endOf t x) := by
  have E := (endOf_is (t := t) (k := (x : Int)) (by omega) (by omega)).gt
  unfold runO
  obtain ⟨n, hn⟩ : ∃ n, t.length - x = n + 1 := ⟨t.length - x - 1, by omega⟩
  rw [hn, runF, if_pos ⟨hx, hp⟩]
  congr 1
  exact runF_eq f t k _ _ _ (by omega) (by omega)
theorem runO_end {f : Nat → List UInt8} {t : List Nd} {k x : Nat} (h : ¬ (x < t.length ∧ par t x = (k : Int))) : runO f t k x = [] := by
  unfold runO
  cases hn : t.length - x with
  | zero => rfl
  | succ n => rw [runF, if_neg h]
def attO (t : List Nd) (a b : Nat) : List UInt8 := ((List.range' a (b - a)).map fun i => [32] ++ leafO (knd t i) (nam t i) (vlu t i)).flatten
theorem attO_step {t : List Nd} {a b : Nat} (h : a ≤ b) : attO t a (b + 1) = attO t a b ++ ([32] ++ leafO (knd t b) (nam t b) (vlu t b)) := by
  unfold attO
  rw [show b + 1 - a = (b - a) + 1 by omega, List.range'_concat, List.map_append, List.flatten_append, show a + 1 * (b - a) = b by omega]
  simp
theorem attO_nil (t : List Nd) (a : Nat) : attO t a a = [] := by unfold attO; rw [Nat.sub_self]; rfl
/-- An element. -/
def elO (f : Nat → List UInt8) (t : List Nd) (x : Nat) : List UInt8 :=
  [60] ++ bl (nam t x) ++ attO t (x + 1) (attE t x) ++ (if attE t x < t.length ∧ par t (attE t x) = (x : Int) then [62] ++ runO f t x (attE t x) ++ ([60, 47] ++ bl (nam t x) ++ [62]) else [47, 62])
def outN (t : List Nd) : Nat → Nat → List UInt8
  | 0, _ => []
  | n + 1, x => if knd t x = 1 then runO (outN t n) t x (x + 1) else if knd t x = 2 then elO (outN t n) t x else leafO (knd t x) (nam t x) (vlu t x)
end Go.Proofs.YtjdcfaaoicnajaaDoor
