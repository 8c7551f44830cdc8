/-
  stretch, ancestors, preceding.
-/
import Derived.Test.YtjdcfaaoicnajaaDoorTEnd
namespace Go.Proofs.YtjdcfaaoicnajaaDoor
open Go.RowKit Go.Maps Go.Lib

theorem anc_len (t : List Nd) : ∀ i, (anc t i).length ≤ i := by
  intro i
  induction i using Nat.strongRecOn with
  | _ i ih =>
    rw [anc]
    split
    · rename_i c
      have := ih (par t i).toNat (by omega)
      rw [List.length_cons]
      omega
    · exact Nat.zero_le _
def precTo (t : List Nd) (k i : Nat) : List Nat := (List.range' i (k - i)).reverse.filter fun j => decide (j ∉ anc t k) && nat3 t j
theorem precTo_end (t : List Nd) (k : Nat) : precTo t k k = [] := by
  unfold precTo
  rw [Nat.sub_self]
  rfl
theorem precTo_zero (t : List Nd) (k : Nat) : precTo t k 0 = prec t k := by
  unfold precTo prec
  rw [Nat.sub_zero, List.range_eq_range']
theorem precTo_step (t : List Nd) {k i : Nat} (h : i < k) : precTo t k i = precTo t k (i + 1) ++ (if i ∉ anc t k ∧ knd t i ≠ 3 then [i] else []) := by
  unfold precTo
  rw [show k - i = (k - (i + 1)) + 1 by omega, List.range'_succ, List.reverse_cons, List.filter_append]
  congr 1
  by_cases h1 : i ∉ anc t k
  · by_cases h2 : knd t i ≠ 3
    · rw [if_pos ⟨h1, h2⟩]; simp [nat3, h1, h2]
    · rw [if_neg (fun x => h2 x.2)]; simp [nat3, h2]
  · rw [if_neg (fun x => h1 x.1)]; simp [h1]
theorem precTo_len (t : List Nd) (k i : Nat) : (precTo t k i).length ≤ k := by
  have : (precTo t k i).length ≤ ((List.range' i (k - i)).reverse).length := List.length_filter_le _ _
  rw [List.length_reverse, List.length_range'] at this
  omega
end Go.Proofs.YtjdcfaaoicnajaaDoor
