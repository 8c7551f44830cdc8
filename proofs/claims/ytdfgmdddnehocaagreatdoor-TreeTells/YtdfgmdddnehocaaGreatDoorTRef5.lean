/-
  The document's own answer: Check and Fragment, of any row.
-/
import Derived.Test.YtdfgmdddnehocaaGreatDoorTRef4
import Derived.Test.YtdfgmdddnehocaaGreatDoorTFitR
import Derived.Test.YtdfgmdddnehocaaGreatDoorTChk
namespace Go.Proofs.YtdfgmdddnehocaaGreatDoor
open Go.RowKit Go.Maps Go.Lib

set_option maxHeartbeats 4000000 in
theorem refOrd_zero (w : World) (ad : Option Addr) (c : Nat) :
    Calls Tryz.prog 60 #[.slice ad 0 c] w fun e w' => e = .returned (.bool true) ∧ w' = w := by
  go_enter Tryz.func60, Tryz.ntmps60
  go_wp2
  go_loopw [3] (fun s3 wr => s3 = .int .i64 0 ∧ wr = w) (fun _ _ => 0)
  case atStart => exact ⟨rfl, rfl⟩
  case round =>
    obtain ⟨rfl, rfl⟩ := hrel
    go_wp2
    go_ret
    exact ⟨rfl, by first | rfl | trivial⟩
set_option maxHeartbeats 4000000 in
theorem refcheck_zero (w : World) (ad : Option Addr) (c : Nat) (r : Bool) :
    Calls Tryz.prog 55 #[.slice ad 0 c, .bool r] w fun e w' => e = .returned (.int .i64 ((if r then 4 else 0 : Nat) : Int)) ∧ Fr [] w w' := by
  have cO := Hid.mk (refOrd_zero w ad c)
  cases r
  all_goals
    go_enter Tryz.func55, Tryz.ntmps55
    go_wp2_with (go_at_call 60; refine (cO.out).mono ?_; rintro e w5 ⟨rfl, h5⟩; have h5' := h5.symm; subst h5')
    go_loopw [5, 6, 7, 8] (fun s5 s6 s7 s8 wr => s5 = .int .i64 0 ∧ s6 = .int .i64 0 ∧ s7 = .bool false ∧ s8 = .int .i64 0 ∧ wr = w) (fun _ _ _ _ _ => 0)
    case atStart => exact ⟨rfl, rfl, rfl, rfl, rfl⟩
    case round =>
      obtain ⟨rfl, rfl, rfl, rfl, rfl⟩ := hrel
      go_wp2
      go_ret
      exact ⟨rfl, Fr.refl _ _⟩
theorem refcheck_any (w : World) (ad : Option Addr) (c n : Nat) (t : List Nd) (hn : t.length = n) (hN : NodesAt w ad t) (hl : n ≤ 300) (hZ : Short t) (r : Bool) :
    Calls Tryz.prog 55 #[.slice ad n c, .bool r] w fun e w' => e = .returned (.int .i64 (judged t (rootsB t r) : Nat)) ∧ Fr [] w w' := by
  by_cases h0 : n = 0
  · subst h0
    have ht : t = [] := List.length_eq_zero_iff.1 hn
    subst ht
    have e : judged [] (rootsB [] r) = if r then 4 else 0 := by cases r <;> rfl
    rw [e]
    exact refcheck_zero w ad c r
  · obtain ⟨b, off, rfl, _⟩ := hN 0 (by omega)
    subst hn
    have hI : NodesIn w b off t := fun i hi => by
      obtain ⟨b', off', e, q⟩ := hN i hi
      cases e
      exact q
    exact refcheck_some w b off c t hI hl r (fun i hi h o w' f => refFits_any w' b off c t (hI.kept f (by simp)) (by omega) hZ i hi h o)
theorem refCheck_any (w : World) (ad : Option Addr) (c n : Nat) (t : List Nd) (hn : t.length = n) (hN : NodesAt w ad t) (hl : n ≤ 300) (hZ : Short t) :
    Calls Tryz.prog 46 #[.slice ad n c] w fun e w' => e = .returned (.int .i64 (judged t (oneB t) : Nat)) ∧ Fr [] w w' := by
  have J := Hid.mk (refcheck_any w ad c n t hn hN hl hZ true)
  have e : rootsB t true = oneB t := rfl
  rw [e] at J
  generalize judged t (oneB t) = A at J ⊢
  clear hN hn hZ e
  go_enter Tryz.func46, Tryz.ntmps46
  go_wp2_with (go_at_call 55; refine (J.out).mono ?_; rintro e w5 ⟨rfl, f5⟩)
  go_ret
  exact ⟨rfl, f5⟩
theorem refFragment_any (w : World) (ad : Option Addr) (c n : Nat) (t : List Nd) (hn : t.length = n) (hN : NodesAt w ad t) (hl : n ≤ 300) (hZ : Short t) :
    Calls Tryz.prog 47 #[.slice ad n c] w fun e w' => e = .returned (.int .i64 (judged t (noB t) : Nat)) ∧ Fr [] w w' := by
  have J := Hid.mk (refcheck_any w ad c n t hn hN hl hZ false)
  have e : rootsB t false = noB t := rfl
  rw [e] at J
  generalize judged t (noB t) = A at J ⊢
  clear hN hn hZ e
  go_enter Tryz.func47, Tryz.ntmps47
  go_wp2_with (go_at_call 55; refine (J.out).mono ?_; rintro e w5 ⟨rfl, f5⟩)
  go_ret
  exact ⟨rfl, f5⟩
end Go.Proofs.YtdfgmdddnehocaaGreatDoor
