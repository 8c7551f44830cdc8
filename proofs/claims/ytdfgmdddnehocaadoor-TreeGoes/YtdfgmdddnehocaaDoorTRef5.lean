/-
  The document's own answer: Check and Fragment, of any row.
-/
import Derived.Test.YtdfgmdddnehocaaDoorTRef4
import Derived.Test.YtdfgmdddnehocaaDoorTFitR
import Derived.Test.YtdfgmdddnehocaaDoorTChk
namespace Go.Proofs.YtdfgmdddnehocaaDoor
open Go.RowKit Go.Maps Go.Lib

set_option maxHeartbeats 4000000 in
theorem refOrd_zero (w : World) (ad : Option Addr) (c : Nat) :
    Calls Tryd.prog 48 #[.slice ad 0 c] w fun e w' => e = .returned (.bool true) ∧ w' = w := by
  go_enter Tryd.func48, Tryd.ntmps48
  go_wp2
  go_loopw [3] (fun s3 wr => s3 = .int .i64 0 ∧ wr = w) (fun _ _ => 0)
  case atStart => exact ⟨rfl, rfl⟩
  case round =>
    obtain ⟨rfl, rfl⟩ := hrel
    go_wp2
    go_ret
    exact ⟨rfl, by first | rfl | trivial⟩
set_option maxHeartbeats 4000000 in
theorem refcheck_zero (w : World) (ad : Option Addr) (c : Nat) (r : Bool) :
    Calls Tryd.prog 29 #[.slice ad 0 c, .bool r] w fun e w' => e = .returned (.int .i64 ((if r then 4 else 0 : Nat) : Int)) ∧ Fr [] w w' := by
  have cO := Hid.mk (refOrd_zero w ad c)
  cases r
  all_goals
    go_enter Tryd.func29, Tryd.ntmps29
    go_wp2_with (go_at_call 48; refine (cO.out).mono ?_; rintro e w5 ⟨rfl, h5⟩; have h5' := h5.symm; subst h5')
    go_loopw [5, 6, 7, 8] (fun s5 s6 s7 s8 wr => s5 = .int .i64 0 ∧ s6 = .int .i64 0 ∧ s7 = .bool false ∧ s8 = .int .i64 0 ∧ wr = w) (fun _ _ _ _ _ => 0)
    case atStart => exact ⟨rfl, rfl, rfl, rfl, rfl⟩
    case round =>
      obtain ⟨rfl, rfl, rfl, rfl, rfl⟩ := hrel
      go_wp2
      go_ret
      exact ⟨rfl, Fr.refl _ _⟩
theorem refcheck_any (w : World) (ad : Option Addr) (c n : Nat) (t : List Nd) (hn : t.length = n) (hN : NodesAt w ad t) (hl : n ≤ 300) (hZ : Short t) (r : Bool) :
    Calls Tryd.prog 29 #[.slice ad n c, .bool r] w fun e w' => e = .returned (.int .i64 (judged t (rootsB t r) : Nat)) ∧ Fr [] w w' := by
  by_cases h0 : n = 0
  · subst h0
    have ht : t = [] := List.length_eq_zero_iff.1 hn
    subst ht
    have e : judged [] (rootsB [] r) = if r then 4 else 0 := by cases r <;> rfl
    rw [e]
    exact refcheck_zero w ad c r
  · obtain ⟨b, off, rfl, _⟩ := hN 0 (by omega)
    subst hn
    have hI : NodesIn w b off t := fun i hi => by
      obtain ⟨b', off', e, q⟩ := hN i hi
      cases e
      exact q
    exact refcheck_some w b off c t hI hl r (fun i hi h o w' f => refFits_any w' b off c t (hI.kept f (by simp)) (by omega) hZ i hi h o)
theorem refCheck_any (w : World) (ad : Option Addr) (c n : Nat) (t : List Nd) (hn : t.length = n) (hN : NodesAt w ad t) (hl : n ≤ 300) (hZ : Short t) :
    Calls Tryd.prog 11 #[.slice ad n c] w fun e w' => e = .returned (.int .i64 (judged t (oneB t) : Nat)) ∧ Fr [] w w' := by
  have J := Hid.mk (refcheck_any w ad c n t hn hN hl hZ true)
  have e : rootsB t true = oneB t := rfl
  rw [e] at J
  generalize judged t (oneB t) = A at J ⊢
  clear hN hn hZ e
  go_enter Tryd.func11, Tryd.ntmps11
  go_wp2_with (go_at_call 29; refine (J.out).mono ?_; rintro e w5 ⟨rfl, f5⟩)
  go_ret
  exact ⟨rfl, f5⟩
theorem refFragment_any (w : World) (ad : Option Addr) (c n : Nat) (t : List Nd) (hn : t.length = n) (hN : NodesAt w ad t) (hl : n ≤ 300) (hZ : Short t) :
    Calls Tryd.prog 13 #[.slice ad n c] w fun e w' => e = .returned (.int .i64 (judged t (noB t) : Nat)) ∧ Fr [] w w' := by
  have J := Hid.mk (refcheck_any w ad c n t hn hN hl hZ false)
  have e : rootsB t false = noB t := rfl
  rw [e] at J
  generalize judged t (noB t) = A at J ⊢
  clear hN hn hZ e
  go_enter Tryd.func13, Tryd.ntmps13
  go_wp2_with (go_at_call 29; refine (J.out).mono ?_; rintro e w5 ⟨rfl, f5⟩)
  go_ret
  exact ⟨rfl, f5⟩
/-- TreeChecks returns true. -/
theorem checks_all (w : World) (L : LaidW w) (ad : Option Addr) (n c : Nat) (t : List Nd) (hn : t.length = n) (hN : NodesAt w ad t) (hS : Sane t) (hZ : Short t) (hnil : ad = none → c = 0) :
    Calls Tryd.prog 3 #[.slice ad n c] w fun e w' => e = .returned (.bool true) ∧ Fr [] w w' :=
  checks_law w L ad c n t hn hN hnil (judged t (oneB t)) (judged t (noB t))
    (fun w' L' g cap le => check_any w' L' (some ⟨g, 0, none⟩) cap n t hn (fun i hi => ⟨g, 0, rfl, le.nodes i hi⟩) hS)
    (fun w' L' g cap le => frag_any w' L' (some ⟨g, 0, none⟩) cap n t hn (fun i hi => ⟨g, 0, rfl, le.nodes i hi⟩) hS)
    (fun hl w' f => refCheck_any w' ad c n t hn (hN.kept f) hl hZ)
    (fun hl w' f => refFragment_any w' ad c n t hn (hN.kept f) hl hZ)
end Go.Proofs.YtdfgmdddnehocaaDoor
