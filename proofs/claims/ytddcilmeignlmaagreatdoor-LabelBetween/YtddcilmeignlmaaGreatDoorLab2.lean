/-
  Labels: Compare, Above, After.
-/
import Derived.Test.YtddcilmeignlmaaGreatDoorLab1
import Derived.Lib.BytesEntry
namespace Go.Proofs.YtddcilmeignlmaaGreatDoor
open Go.RowKit Go.Maps Go.Lib

theorem run_bytesOf (w : World) (ad : Option Addr) (n c : Nat) (l : List UInt8) (hl : l.length = n) (hb : BytesAt w ad l) : (Extern.Bytes.bytesOf (.slice ad n c)).run Tryz.prog w = .ok (mkS l) w := by
  cases ad with
  | none =>
    have : l = [] := by
      cases l with
      | nil => rfl
      | cons x r =>
        obtain ⟨b, off, e, _⟩ := hb.at 0 (by simp)
        cases e
    subst this
    rfl
  | some a =>
    subst hl
    have := run_loadBytesX (P := Tryz.prog) w (l.map fun x => (x.toNat : Int)) a ByteArray.empty (fun j x hx => by
      obtain ⟨b, off, e, hc⟩ := hb j (.int .u8 x) (by simp [arr]; simpa using hx)
      cases e
      rw [Addr.add_mid]
      exact hc)
    rw [List.length_map] at this
    show (Extern.Bytes.loadBytes a l.length ByteArray.empty).run Tryz.prog w = _
    rw [this]
    congr 1
    unfold mkS
    congr 1
    simp [bytesOf, Function.comp_def]

theorem run_cmpB (w : World) (a1 a2 : Option Addr) (n1 n2 c1 c2 : Nat) (l1 l2 : List UInt8) (h1 : l1.length = n1) (h2 : l2.length = n2) (b1 : BytesAt w a1 l1) (b2 : BytesAt w a2 l2) :
    (callFunc 64 #[.slice a1 n1 c1, .slice a2 n2 c2]).run Tryz.prog w = .ok (.value (.int .i64 (compareBytes l1 l2))) w := by
  rw [run_callFunc_extern (P := Tryz.prog) Tryz.func64 (by kernel_rfl) (by kernel_rfl) (by kernel_rfl) (e := Extern.BytealgCompare.compare) (by kernel_rfl)]
  change ((do pure (goInt (Extern.BytealgCompare.cmp (← Extern.Bytes.bytesOf (.slice a1 n1 c1)) (← Extern.Bytes.bytesOf (.slice a2 n2 c2)))) : Sem Value).run Tryz.prog w).andThen _ = _
  simp only [Sem.run_bind, Sem.run_pure, run_bytesOf w a1 n1 c1 l1 h1 b1, run_bytesOf w a2 n2 c2 l2 h2 b2, Result.andThen]
  rw [cmp_eq]
  rfl

set_option maxHeartbeats 1000000 in
theorem bytesCompare_any (w : World) (a1 a2 : Option Addr) (n1 n2 c1 c2 : Nat) (l1 l2 : List UInt8) (h1 : l1.length = n1) (h2 : l2.length = n2) (b1 : BytesAt w a1 l1) (b2 : BytesAt w a2 l2) :
    Calls Tryz.prog 39 #[.slice a1 n1 c1, .slice a2 n2 c2] w fun e w' => e = .returned (.int .i64 (compareBytes l1 l2)) ∧ w = w' := by
  have h := run_cmpB w a1 a2 n1 n2 c1 c2 l1 l2 h1 h2 b1 b2
  clear h1 h2
  go_enter Tryz.func39, Tryz.ntmps39
  go_wp2
  go_ret
  exact ⟨rfl, rfl⟩
set_option maxHeartbeats 1000000 in
theorem compareL_any (w : World) (a1 a2 : Option Addr) (n1 n2 c1 c2 : Nat) (l1 l2 : List UInt8) (h1 : l1.length = n1) (h2 : l2.length = n2) (b1 : BytesAt w a1 l1) (b2 : BytesAt w a2 l2) :
    Calls Tryz.prog 17 #[.slice a1 n1 c1, .slice a2 n2 c2] w fun e w' => e = .returned (.int .i64 (compareBytes l1 l2)) ∧ w = w' := by
  have h := bytesCompare_any w a1 a2 n1 n2 c1 c2 l1 l2 h1 h2 b1 b2
  clear h1 h2
  go_enter Tryz.func17, Tryz.ntmps17
  go_wp2_with (go_at_call 39; refine h.mono ?_; rintro e w5 ⟨rfl, rfl⟩)
  go_ret
  exact ⟨rfl, rfl⟩

/-- Whether steps are the beginning of others. -/
def abv (ss tt : List (List Bool)) : Bool := decide (ss.length < tt.length) && ((enc tt).take (enc ss).length == enc ss)

set_option maxHeartbeats 2000000 in
set_option maxRecDepth 100000 in
theorem above_yes (w : World) (a1 a2 : Option Addr) (n1 n2 c1 c2 : Nat) (l1 l2 : List UInt8) (ss tt : List (List Bool)) (L1 : Lab l1 ss) (L2 : Lab l2 tt) (h1 : l1.length = n1) (h2 : l2.length = n2) (b1 : BytesAt w a1 l1) (b2 : BytesAt w a2 l2) (p1 : Plain a1) (p2 : Plain a2) :
    Calls Tryz.prog 19 #[.slice a1 n1 c1, .slice a2 n2 c2] w fun e w' => e = .returned (.bool (abv ss tt)) ∧ Fr [] w w' := by
  have r1 := read_yes w a1 n1 c1 l1 ss L1 h1 b1 p1
  have r2 := fun w' (f : Fr [] w w') => read_yes w' a2 n2 c2 l2 tt L2 h2 (b2.kept f (by simp)) p2
  have R2 : Hid (∀ w', Fr [] w w' → Calls Tryz.prog 29 #[.slice a2 n2 c2] w' fun e w'' => ∃ u2 u3, e = .returned (.tuple #[pv (mkS l2) (enc tt).length u2 (enc tt.dropLast).length u3 (lastS tt).length (tt.length : Int), .bool true]) ∧ Rep u2 (enc tt.dropLast).length (enc tt.dropLast) ∧ Rep u3 (lastS tt).length (lastS tt) ∧ Fr [] w' w'') := r2
  have q1 := L1.rep
  have q2 := L2.rep
  clear h1 h2 r2
  by_cases hlt : ss.length < tt.length
  · have hd : decide ((ss.length : Int) < (tt.length : Int)) = true := by simp; omega
    have ha : abv ss tt = ((enc tt).take (enc ss).length == enc ss) := by simp [abv, hlt]
    rw [ha]
    clear ha
    go_enter Tryz.func19, Tryz.ntmps19
    go_wp2_with fail
    refine r1.mono ?_
    rintro e w1 ⟨u2, u3, rfl, _, _, f1⟩
    have f1a := f1.alloc (.cells #[.string (mkS l1), .int .i64 ((enc ss).length : Int), .string u2, .int .i64 ((enc ss.dropLast).length : Int), .string u3, .int .i64 ((lastS ss).length : Int), .int .i64 (ss.length : Int)] 45)
    go_wp2_with fail
    refine (R2.out _ f1a).mono ?_
    rintro e w2 ⟨u4, u5, rfl, _, _, f2⟩
    have pb : PBox w2 w1.heap.size (mkS l1) (enc ss).length u2 (enc ss.dropLast).length u3 (lastS ss).length (ss.length : Int) := f2.same (by simp) (heap_alloc_new w1 _)
    have d0 := pb.c0
    have d1 := pb.c1
    have d6 := pb.c6
    have hlt1 := pb.lt
    have g2 := (f1a.trans f2).alloc (.cells #[.string (mkS l2), .int .i64 ((enc tt).length : Int), .string u4, .int .i64 ((enc tt.dropLast).length : Int), .string u5, .int .i64 ((lastS tt).length : Int), .int .i64 (tt.length : Int)] 45)
    clear r1
    go_wp2_with (go_at_call 40; refine (begins_any _ (mkS l2) (mkS l1) (enc tt).length (enc ss).length (enc tt) (enc ss) q2 q1).mono ?_; rintro e w5 ⟨rfl, f5⟩)
    go_ret
    exact ⟨rfl, g2.trans f5⟩
  · have hd : decide ((ss.length : Int) < (tt.length : Int)) = false := by simp; omega
    have ha : abv ss tt = false := by simp [abv, hlt]
    rw [ha]
    clear ha
    go_enter Tryz.func19, Tryz.ntmps19
    go_wp2_with fail
    refine r1.mono ?_
    rintro e w1 ⟨u2, u3, rfl, _, _, f1⟩
    have f1a := f1.alloc (.cells #[.string (mkS l1), .int .i64 ((enc ss).length : Int), .string u2, .int .i64 ((enc ss.dropLast).length : Int), .string u3, .int .i64 ((lastS ss).length : Int), .int .i64 (ss.length : Int)] 45)
    go_wp2_with fail
    refine (R2.out _ f1a).mono ?_
    rintro e w2 ⟨u4, u5, rfl, _, _, f2⟩
    have pb : PBox w2 w1.heap.size (mkS l1) (enc ss).length u2 (enc ss.dropLast).length u3 (lastS ss).length (ss.length : Int) := f2.same (by simp) (heap_alloc_new w1 _)
    have d6 := pb.c6
    have hlt1 := pb.lt
    have g2 := (f1a.trans f2).alloc (.cells #[.string (mkS l2), .int .i64 ((enc tt).length : Int), .string u4, .int .i64 ((enc tt.dropLast).length : Int), .string u5, .int .i64 ((lastS tt).length : Int), .int .i64 (tt.length : Int)] 45)
    clear r1
    go_wp2_with fail
    go_ret
    exact ⟨rfl, g2⟩

end Go.Proofs.YtddcilmeignlmaaGreatDoor
