/-
  Check and Fragment of no nodes.
-/
import Derived.Test.YtjdcfaaoicnajaaDoorTJudge
namespace Go.Proofs.YtjdcfaaoicnajaaDoor
open Go.RowKit Go.Maps Go.Lib

set_option maxHeartbeats 4000000 in
set_option maxRecDepth 100000 in
theorem measure_none (w : World) (ad : Option Addr) (c : Nat) :
    Calls Tryd.prog 40 #[.slice ad 0 c] w fun e w' => e = .returned (.tuple #[.int .i64 0, .bool true]) ∧ Fr [] w w' := by
  have hmm := @run_makeMap Tryd.prog
  go_enter Tryd.func40, Tryd.ntmps40
  go_wp2
  clear hmm
  go_loopw [2, 15] (fun s2 s15 wr => s2 = .int .i64 0 ∧ s15 = .int .i64 0 ∧ Fr [] w wr) (fun _ _ _ => 0)
  case atStart => exact ⟨rfl, rfl, (Fr.refl _ _).alloc _⟩
  case round =>
    obtain ⟨rfl, rfl, fr⟩ := hrel
    go_wp2
    go_ret2
    exact ⟨rfl, fr⟩
theorem hasOneRoot_none (w : World) (ad : Option Addr) (c : Nat) :
    Calls Tryd.prog 31 #[.slice ad 0 c] w fun e w' => e = .returned (.bool false) ∧ Fr [] w w' := by
  obtain ⟨n, hn⟩ : ∃ n : Nat, n = 0 := ⟨_, rfl⟩
  have h0' : ((n : Int) == 0) = true := by rw [beq_iff_eq]; omega
  rw [← hn]
  clear hn
  go_enter Tryd.func31, Tryd.ntmps31
  go_wp2
  go_ret
  exact ⟨rfl, Fr.refl _ _⟩
set_option maxHeartbeats 4000000 in
set_option maxRecDepth 100000 in
theorem check_none (w : World) (ad : Option Addr) (c : Nat) :
    Calls Tryd.prog 20 #[.slice ad 0 c] w fun e w' => e = .returned (.int .i64 4) ∧ Fr [] w w' := by
  go_enter Tryd.func20, Tryd.ntmps20
  go_wp2_with (first
    | (go_at_call 40; refine (measure_none _ ad c).mono ?_; rintro e w5 ⟨rfl, f5⟩)
    | (go_at_call 31; refine (hasOneRoot_none _ ad c).mono ?_; rintro e w6 ⟨rfl, f6⟩)
    | go_in)
  go_ret
  exact ⟨rfl, f5.trans f6⟩
theorem hasNoRoot_none (w : World) (ad : Option Addr) (c : Nat) :
    Calls Tryd.prog 33 #[.slice ad 0 c] w fun e w' => e = .returned (.bool true) ∧ Fr [] w w' := by
  obtain ⟨n, hn⟩ : ∃ n : Nat, n = 0 := ⟨_, rfl⟩
  have h0' : ((n : Int) == 0) = true := by rw [beq_iff_eq]; omega
  rw [← hn]
  clear hn
  go_enter Tryd.func33, Tryd.ntmps33
  go_wp2
  go_ret
  exact ⟨rfl, Fr.refl _ _⟩
set_option maxHeartbeats 4000000 in
set_option maxRecDepth 100000 in
theorem frag_none (w : World) (ad : Option Addr) (c : Nat) :
    Calls Tryd.prog 22 #[.slice ad 0 c] w fun e w' => e = .returned (.int .i64 0) ∧ Fr [] w w' := by
  go_enter Tryd.func22, Tryd.ntmps22
  go_wp2_with (first
    | (go_at_call 40; refine (measure_none _ ad c).mono ?_; rintro e w5 ⟨rfl, f5⟩)
    | (go_at_call 33; refine (hasNoRoot_none _ ad c).mono ?_; rintro e w6 ⟨rfl, f6⟩)
    | go_in)
  go_ret
  exact ⟨rfl, f5.trans f6⟩
theorem judged_none1 : judged [] (oneB []) = 4 := rfl
theorem judged_none2 : judged [] (noB []) = 0 := rfl
theorem check_any (w : World) (L : LaidW w) (ad : Option Addr) (c n : Nat) (t : List Nd) (hn : t.length = n) (hN : NodesAt w ad t) (hS : Sane t) :
    Calls Tryd.prog 20 #[.slice ad n c] w fun e w' => e = .returned (.int .i64 (judged t (oneB t) : Nat)) ∧ Fr [] w w' := by
  subst hn
  cases t with
  | nil => exact check_none w ad c
  | cons x r =>
    obtain ⟨b, off, rfl, h⟩ := hN.in (by simp)
    exact check_some w L b off c _ h hS
theorem frag_any (w : World) (L : LaidW w) (ad : Option Addr) (c n : Nat) (t : List Nd) (hn : t.length = n) (hN : NodesAt w ad t) (hS : Sane t) :
    Calls Tryd.prog 22 #[.slice ad n c] w fun e w' => e = .returned (.int .i64 (judged t (noB t) : Nat)) ∧ Fr [] w w' := by
  subst hn
  cases t with
  | nil => exact frag_none w ad c
  | cons x r =>
    obtain ⟨b, off, rfl, h⟩ := hN.in (by simp)
    exact frag_some w L b off c _ h hS
/-- Whether a row is right, and a place one of it. -/
def okT (t : List Nd) : Bool := if knd t 0 = 1 then decide (judged t (oneB t) = 0) else decide (judged t (noB t) = 0)
def hasB (t : List Nd) (k : Int) : Bool := decide (0 ≤ k ∧ k < (t.length : Int)) && okT t
end Go.Proofs.YtjdcfaaoicnajaaDoor
