/-
  Kids and Attributes, wherever.
-/
import Derived.Test.YtdfgmdddnehocabGreatDoorTPart
import Derived.Test.YtdfgmdddnehocabGreatDoorXGo
namespace Go.Proofs.YtdfgmdddnehocabGreatDoor
open Go.RowKit Go.Maps Go.Lib

theorem has_iff {t : List Nd} {k : Int} (h : hasB t k = true) : ∃ m : Nat, k = (m : Int) ∧ m < t.length ∧ t.length ≤ 16384 ∧ Good t := by
  unfold hasB at h
  rw [Bool.and_eq_true, decide_eq_true_eq] at h
  exact ⟨k.toNat, by omega, by omega, ok_len h.2, ok_good h.2⟩
def kidsS (t : List Nd) (k : Int) : List Nat := if hasB t k = true then kidsL t k else []
def attrsS (t : List Nd) (k : Int) : List Nat := if hasB t k = true then attrsL k.toNat (attrEnds t k.toNat) else []
set_option maxHeartbeats 4000000 in
theorem Kids_any (w : World) (L : LaidW w) (ad : Option Addr) (n c : Nat) (t : List Nd) (hn : t.length = n) (hN : NodesAt w ad t) (hS : Sane t) (k : Int) :
    Calls Tryz.prog 10 #[.slice ad n c, .int .i64 k] w fun e w' => (∃ v, e = .returned v ∧ Ints w w' v (kidsS t k)) ∧ Fr [] w w' := by
  unfold kidsS
  cases hh : hasB t k with
  | true =>
    obtain ⟨m, rfl, hm, _, _⟩ := has_iff hh
    subst hn
    obtain ⟨b, off, rfl, hI⟩ := hN.in (by omega)
    rw [if_pos rfl]
    exact Kids_at w b off c t m (At.mk' L hI hS hh)
  | false =>
    have cH := Hid.mk (has_any w L ad c n t hn hN hS k)
    rw [hh] at cH
    rw [if_neg (by decide)]
    clear hN hS L hh
    go_enter Tryz.func10, Tryz.ntmps10
    go_wp2_with (go_at_call 18; refine cH.out.mono ?_; rintro e w5 ⟨rfl, f5⟩)
    go_ret
    exact ⟨⟨_, rfl, Ints.nil _ _⟩, f5⟩
end Go.Proofs.YtdfgmdddnehocabGreatDoor
