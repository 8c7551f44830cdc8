/-
  End, Text; the small tree.
-/
import Derived.Test.YtdfgmdddnehocabGreatDoorTStr
namespace Go.Proofs.YtdfgmdddnehocabGreatDoor
open Go.RowKit Go.Maps Go.Lib

theorem end_len (t : List Nd) (k : Nat) (hk : k < t.length) : endOf t k ≤ t.length := (endOf_is (t := t) (k := (k : Int)) (by omega) (by omega)).le
/-- what is right is not too long. -/
theorem ok_len {t : List Nd} (h : okT t = true) : t.length ≤ 16384 := by
  unfold okT judged at h
  split at h
  · have h := of_decide_eq_true h
    split at h
    · cases h
    · omega
  · have h := of_decide_eq_true h
    split at h
    · cases h
    · omega
theorem ok_good {t : List Nd} (h : okT t = true) : Good t := by
  have key : ∀ R, judged t R = 0 → Good t := fun R hR => by
    unfold judged at hR
    split at hR
    · cases hR
    · split at hR
      · cases hR
      · rename_i hg
        exact (goodB_iff t _).1 (by cases hb : goodB t t.length with | true => rfl | false => rw [hb] at hg; exact absurd rfl hg)
  unfold okT at h
  split at h
  · exact key _ (of_decide_eq_true h)
  · exact key _ (of_decide_eq_true h)
def endS (t : List Nd) (k : Int) : Nat := if hasB t k = true then endOf t k.toNat else 0
set_option maxHeartbeats 4000000 in
theorem End_any (w : World) (L : LaidW w) (ad : Option Addr) (c n : Nat) (t : List Nd) (hn : t.length = n) (hN : NodesAt w ad t) (hS : Sane t) (k : Int) :
    Calls Tryz.prog 15 #[.slice ad n c, .int .i64 k] w fun e w' => e = .returned (.int .i64 (endS t k : Nat)) ∧ Fr [] w w' := by
  have cH := Hid.mk (has_any w L ad c n t hn hN hS k)
  unfold endS
  cases hh : hasB t k with
  | false =>
    rw [hh] at cH
    rw [if_neg (by decide)]
    clear hN hS L hh
    go_enter Tryz.func15, Tryz.ntmps15
    go_wp2_with (go_at_call 18; refine cH.out.mono ?_; rintro e w5 ⟨rfl, f5⟩)
    go_ret
    exact ⟨rfl, f5⟩
  | true =>
    rw [hh] at cH
    rw [if_pos rfl]
    unfold hasB at hh
    rw [Bool.and_eq_true, decide_eq_true_eq] at hh
    obtain ⟨m, rfl⟩ : ∃ m : Nat, k = (m : Int) := ⟨k.toNat, by omega⟩
    subst hn
    have hl := ok_len hh.2
    obtain ⟨b, off, rfl, hI⟩ := hN.in (by omega)
    have HI := Hid.mk hI
    rw [Int.toNat_natCast]
    have hm : m < t.length := by omega
    clear hN hS L hh hI
    go_enter Tryz.func15, Tryz.ntmps15
    go_wp2_with (first
      | (go_at_call 18; refine cH.out.mono ?_; rintro e w5 ⟨rfl, f5⟩)
      | (go_at_call 20; refine (end_any _ b off c t (HI.out.kept f5 (by simp)) hl m hm).mono ?_; rintro e w6 ⟨rfl, f6⟩))
    go_ret
    exact ⟨rfl, f5.trans f6⟩
end Go.Proofs.YtdfgmdddnehocabGreatDoor
