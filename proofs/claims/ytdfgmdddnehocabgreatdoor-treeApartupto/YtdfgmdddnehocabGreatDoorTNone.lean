/-
  Check and Fragment of no nodes.
-/
import Derived.Test.YtdfgmdddnehocabGreatDoorTJudge
namespace Go.Proofs.YtdfgmdddnehocabGreatDoor
open Go.RowKit Go.Maps Go.Lib

set_option maxHeartbeats 4000000 in
set_option maxRecDepth 100000 in
theorem measure_none (w : World) (ad : Option Addr) (c : Nat) :
    Calls Tryz.prog 61 #[.slice ad 0 c] w fun e w' => e = .returned (.tuple #[.int .i64 0, .bool true]) ∧ Fr [] w w' := by
  have hmm := @run_makeMap Tryz.prog
  go_enter Tryz.func61, Tryz.ntmps61
  go_wp2
  clear hmm
  go_loopw [2, 15] (fun s2 s15 wr => s2 = .int .i64 0 ∧ s15 = .int .i64 0 ∧ Fr [] w wr) (fun _ _ _ => 0)
  case atStart => exact ⟨rfl, rfl, (Fr.refl _ _).alloc _⟩
  case round =>
    obtain ⟨rfl, rfl, fr⟩ := hrel
    go_wp2
    go_ret2
    exact ⟨rfl, fr⟩
theorem hasOneRoot_none (w : World) (ad : Option Addr) (c : Nat) :
    Calls Tryz.prog 34 #[.slice ad 0 c] w fun e w' => e = .returned (.bool false) ∧ Fr [] w w' := by
  obtain ⟨n, hn⟩ : ∃ n : Nat, n = 0 := ⟨_, rfl⟩
  have h0' : ((n : Int) == 0) = true := by rw [beq_iff_eq]; omega
  rw [← hn]
  clear hn
  go_enter Tryz.func34, Tryz.ntmps34
  go_wp2
  go_ret
  exact ⟨rfl, Fr.refl _ _⟩
set_option maxHeartbeats 4000000 in
set_option maxRecDepth 100000 in
theorem check_none (w : World) (ad : Option Addr) (c : Nat) :
    Calls Tryz.prog 13 #[.slice ad 0 c] w fun e w' => e = .returned (.int .i64 4) ∧ Fr [] w w' := by
  go_enter Tryz.func13, Tryz.ntmps13
  go_wp2_with (first
    | (go_at_call 61; refine (measure_none _ ad c).mono ?_; rintro e w5 ⟨rfl, f5⟩)
    | (go_at_call 34; refine (hasOneRoot_none _ ad c).mono ?_; rintro e w6 ⟨rfl, f6⟩)
    | go_in)
  go_ret
  exact ⟨rfl, f5.trans f6⟩
theorem hasNoRoot_none (w : World) (ad : Option Addr) (c : Nat) :
    Calls Tryz.prog 85 #[.slice ad 0 c] w fun e w' => e = .returned (.bool true) ∧ Fr [] w w' := by
  obtain ⟨n, hn⟩ : ∃ n : Nat, n = 0 := ⟨_, rfl⟩
  have h0' : ((n : Int) == 0) = true := by rw [beq_iff_eq]; omega
  rw [← hn]
  clear hn
  go_enter Tryz.func85, Tryz.ntmps85
  go_wp2
  go_ret
  exact ⟨rfl, Fr.refl _ _⟩
set_option maxHeartbeats 4000000 in
set_option maxRecDepth 100000 in
theorem frag_none (w : World) (ad : Option Addr) (c : Nat) :
    Calls Tryz.prog 53 #[.slice ad 0 c] w fun e w' => e = .returned (.int .i64 0) ∧ Fr [] w w' := by
  go_enter Tryz.func53, Tryz.ntmps53
  go_wp2_with (first
    | (go_at_call 61; refine (measure_none _ ad c).mono ?_; rintro e w5 ⟨rfl, f5⟩)
    | (go_at_call 85; refine (hasNoRoot_none _ ad c).mono ?_; rintro e w6 ⟨rfl, f6⟩)
    | go_in)
  go_ret
  exact ⟨rfl, f5.trans f6⟩
theorem judged_none1 : judged [] (oneB []) = 4 := rfl
theorem judged_none2 : judged [] (noB []) = 0 := rfl
theorem check_any (w : World) (L : LaidW w) (ad : Option Addr) (c n : Nat) (t : List Nd) (hn : t.length = n) (hN : NodesAt w ad t) (hS : Sane t) :
    Calls Tryz.prog 13 #[.slice ad n c] w fun e w' => e = .returned (.int .i64 (judged t (oneB t) : Nat)) ∧ Fr [] w w' := by
  subst hn
  cases t with
  | nil => exact check_none w ad c
  | cons x r =>
    obtain ⟨b, off, rfl, h⟩ := hN.in (by simp)
    exact check_some w L b off c _ h hS
theorem frag_any (w : World) (L : LaidW w) (ad : Option Addr) (c n : Nat) (t : List Nd) (hn : t.length = n) (hN : NodesAt w ad t) (hS : Sane t) :
    Calls Tryz.prog 53 #[.slice ad n c] w fun e w' => e = .returned (.int .i64 (judged t (noB t) : Nat)) ∧ Fr [] w w' := by
  subst hn
  cases t with
  | nil => exact frag_none w ad c
  | cons x r =>
    obtain ⟨b, off, rfl, h⟩ := hN.in (by simp)
    exact frag_some w L b off c _ h hS
/-- Whether a row is right, and a place one of it. -/
def okT (t : List Nd) : Bool := if knd t 0 = 1 then decide (judged t (oneB t) = 0) else decide (judged t (noB t) = 0)
def hasB (t : List Nd) (k : Int) : Bool := decide (0 ≤ k ∧ k < (t.length : Int)) && okT t
set_option maxHeartbeats 4000000 in
theorem has_any (w : World) (L : LaidW w) (ad : Option Addr) (c n : Nat) (t : List Nd) (hn : t.length = n) (hN : NodesAt w ad t) (hS : Sane t) (k : Int) :
    Calls Tryz.prog 18 #[.slice ad n c, .int .i64 k] w fun e w' => e = .returned (.bool (hasB t k)) ∧ Fr [] w w' := by
  unfold hasB
  by_cases h0 : k < 0
  · rw [decide_eq_false (by omega), Bool.false_and]
    have h0' : decide (k < 0) = true := decide_eq_true h0
    clear hN hS L
    go_enter Tryz.func18, Tryz.ntmps18
    go_wp2
    go_ret
    exact ⟨rfl, Fr.refl _ _⟩
  · have h0' : decide (k < 0) = false := decide_eq_false h0
    by_cases h1 : (n : Int) ≤ k
    · rw [decide_eq_false (by omega), Bool.false_and]
      have h1' : decide ((n : Int) ≤ k) = true := decide_eq_true h1
      clear hN hS L
      go_enter Tryz.func18, Tryz.ntmps18
      go_wp2
      go_ret
      exact ⟨rfl, Fr.refl _ _⟩
    · have h1' : decide ((n : Int) ≤ k) = false := decide_eq_false h1
      rw [decide_eq_true (by omega), Bool.true_and]
      subst hn
      obtain ⟨b, off, rfl, hI⟩ := hN.in (by omega)
      have hl0 : (0 : Int) < (t.length : Int) := by omega
      obtain ⟨c0, c1, c2, c3⟩ := hI 0 (by omega)
      rw [Nat.zero_mul, Nat.add_zero] at c0
      have cC := check_some w L b off c t hI hS
      have cF := frag_some w L b off c t hI hS
      unfold okT
      obtain ⟨A1, hA1⟩ : ∃ A, judged t (oneB t) = A := ⟨_, rfl⟩
      obtain ⟨A2, hA2⟩ : ∃ A, judged t (noB t) = A := ⟨_, rfl⟩
      rw [hA1] at cC ⊢
      rw [hA2] at cF ⊢
      have CC := Hid.mk cC
      have CF := Hid.mk cF
      generalize knd t 0 = K at c0
      clear cC cF hA1 hA2 hN hS L c1 c2 c3 hI
      by_cases k1 : K = 1
      · subst k1
        rw [if_pos rfl]
        go_enter Tryz.func18, Tryz.ntmps18
        go_wp2_with (go_at_call 13; refine CC.out.mono ?_; rintro e w5 ⟨rfl, f5⟩)
        go_ret
        exact ⟨congrArg (fun b => Ending.returned (Value.bool b)) (by rw [Bool.eq_iff_iff]; simp), f5⟩
      · rw [if_neg k1]
        have k1b : ((K : Int) == 1) = false := by rw [beq_eq_false_iff_ne]; omega
        clear k1
        go_enter Tryz.func18, Tryz.ntmps18
        go_wp2_with (go_at_call 53; refine CF.out.mono ?_; rintro e w5 ⟨rfl, f5⟩)
        go_ret
        exact ⟨congrArg (fun b => Ending.returned (Value.bool b)) (by rw [Bool.eq_iff_iff]; simp), f5⟩
end Go.Proofs.YtdfgmdddnehocabGreatDoor
