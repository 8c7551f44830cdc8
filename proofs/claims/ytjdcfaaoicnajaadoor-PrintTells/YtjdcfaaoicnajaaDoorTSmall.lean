/-
  End, Text; the small tree.
-/
import Derived.Test.YtjdcfaaoicnajaaDoorTStr
namespace Go.Proofs.YtjdcfaaoicnajaaDoor
open Go.RowKit Go.Maps Go.Lib

theorem end_len (t : List Nd) (k : Nat) (hk : k < t.length) : endOf t k ≤ t.length := (endOf_is (t := t) (k := (k : Int)) (by omega) (by omega)).le
/-- what is right is not too long. -/
theorem ok_len {t : List Nd} (h : okT t = true) : t.length ≤ 16384 := by
  unfold okT judged at h
  split at h
  · have h := of_decide_eq_true h
    split at h
    · cases h
    · omega
  · have h := of_decide_eq_true h
    split at h
    · cases h
    · omega
theorem ok_good {t : List Nd} (h : okT t = true) : Good t := by
  have key : ∀ R, judged t R = 0 → Good t := fun R hR => by
    unfold judged at hR
    split at hR
    · cases hR
    · split at hR
      · cases hR
      · rename_i hg
        exact (goodB_iff t _).1 (by cases hb : goodB t t.length with | true => rfl | false => rw [hb] at hg; exact absurd rfl hg)
  unfold okT at h
  split at h
  · exact key _ (of_decide_eq_true h)
  · exact key _ (of_decide_eq_true h)
def endS (t : List Nd) (k : Int) : Nat := if hasB t k = true then endOf t k.toNat else 0
end Go.Proofs.YtjdcfaaoicnajaaDoor
