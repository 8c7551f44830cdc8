/-
  Records: what is right, and the program's right.
-/
import Derived.Test.YtopaeomjndblkaaGreatQSum
namespace Go.Proofs.YtopaeomjndblkaaGreat
open Go.RowKit Go.Maps

structure Rec where
  lsn : Int
  turn : Int
  kind : Nat
  tx : Int
  prev : Int
  next : Int
  block : Int
  off : Int
  old : List UInt8
  new : List UInt8

def placeB (n : Int) : Bool := decide (0 ≤ n) && decide (n ≤ 4611686018427387904)
def fitsB (b o : Int) (m : Nat) : Bool := decide (0 ≤ b) && decide (b < 65536) && decide (0 ≤ o) && decide (0 < m) && decide (o ≤ 512 - (m : Int))
def headB (r : Rec) : Bool := decide (1 ≤ r.lsn) && decide (r.lsn ≤ 4611686018427387904) && decide (1 ≤ r.turn) && decide (r.turn ≤ 2147483647) && placeB r.tx && placeB r.prev
def kindB (r : Rec) : Bool :=
  if r.kind = 1 then decide (r.next = 0) && (fitsB r.block r.off r.new.length && decide (r.old.length = r.new.length))
  else if r.kind = 2 then placeB r.next && (fitsB r.block r.off r.new.length && decide (r.old.length = 0))
  else if r.kind = 3 ∨ r.kind = 4 then decide (r.next = 0) && (decide (r.block = 0) && (decide (r.off = 0) && (decide (r.old.length = 0) && decide (r.new.length = 0))))
  else false
def rightB (r : Rec) : Bool := headB r && kindB r

/-- Where a record's lists lie. -/
structure Spots where
  a1 : Option Addr
  c1 : Nat
  a2 : Option Addr
  c2 : Nat
def spanV (r : Rec) (s : Spots) : Array Value := #[.int .i64 r.block, .int .i64 r.off, .slice s.a1 r.old.length s.c1, .slice s.a2 r.new.length s.c2]
def recV (r : Rec) (s : Spots) : Array Value := #[.int .i64 r.lsn, .int .i64 r.turn, .int .u8 (r.kind : Int), .int .i64 r.tx, .int .i64 r.prev, .int .i64 r.next, .int .i64 r.block, .int .i64 r.off, .slice s.a1 r.old.length s.c1, .slice s.a2 r.new.length s.c2]

set_option maxHeartbeats 400000 in
theorem isPlace_any (w : World) (n : Int) : Calls Tryz.prog 278 #[.int .i64 n] w fun e w' => e = .returned (.bool (placeB n)) ∧ w' = w := by
  unfold placeB
  by_cases h1 : 0 ≤ n
  · by_cases h2 : n ≤ 4611686018427387904
    · rw [decide_eq_true h1, decide_eq_true h2]
      go_enter Tryz.func278, Tryz.ntmps278
      go_wp2
      go_ret
      exact ⟨rfl, rfl⟩
    · rw [decide_eq_true h1, decide_eq_false h2]
      go_enter Tryz.func278, Tryz.ntmps278
      go_wp2
      go_ret
      exact ⟨rfl, rfl⟩
  · rw [decide_eq_false h1]
    go_enter Tryz.func278, Tryz.ntmps278
    go_wp2
    go_ret
    exact ⟨rfl, rfl⟩

set_option maxHeartbeats 1000000 in
theorem fits_any (w : World) (b o : Int) (n c1 m c2 : Nat) (a1 a2 : Option Addr) (hm : m ≤ 1000000) : Calls Tryz.prog 279 #[.agg #[.int .i64 b, .int .i64 o, .slice a1 n c1, .slice a2 m c2]] w fun e w' => e = .returned (.bool (fitsB b o m)) ∧ Fr [] w w' := by
  unfold fitsB
  have hw : IntKind.i64.wrap (512 - (m : Int)) = 512 - (m : Int) := by simp [IntKind.wrap, IntKind.signed, IntKind.bits]; omega
  by_cases h0 : 0 ≤ b
  · by_cases h1 : b < 65536
    · by_cases h2 : 0 ≤ o
      · by_cases h3 : 0 < m
        · by_cases h4 : o ≤ 512 - (m : Int)
          · rw [decide_eq_true h0, decide_eq_true h1, decide_eq_true h2, decide_eq_true h3, decide_eq_true h4]
            go_enter Tryz.func279, Tryz.ntmps279
            go_wp2_with fail
            go_ret
            exact ⟨rfl, (Fr.refl [] w).alloc _⟩
          · rw [decide_eq_true h0, decide_eq_true h1, decide_eq_true h2, decide_eq_true h3, decide_eq_false h4]
            go_enter Tryz.func279, Tryz.ntmps279
            go_wp2_with fail
            go_ret
            exact ⟨rfl, (Fr.refl [] w).alloc _⟩
        · rw [decide_eq_true h0, decide_eq_true h1, decide_eq_true h2, decide_eq_false h3]; have hm0 : ¬ (0 : Int) < (m : Int) := (by omega)
          go_enter Tryz.func279, Tryz.ntmps279
          go_wp2_with fail
          go_ret
          exact ⟨rfl, (Fr.refl [] w).alloc _⟩
      · rw [decide_eq_true h0, decide_eq_true h1, decide_eq_false h2]
        go_enter Tryz.func279, Tryz.ntmps279
        go_wp2_with fail
        go_ret
        exact ⟨rfl, (Fr.refl [] w).alloc _⟩
    · rw [decide_eq_true h0, decide_eq_false h1]
      go_enter Tryz.func279, Tryz.ntmps279
      go_wp2_with fail
      go_ret
      exact ⟨rfl, (Fr.refl [] w).alloc _⟩
  · rw [decide_eq_false h0]
    go_enter Tryz.func279, Tryz.ntmps279
    go_wp2_with fail
    go_ret
    exact ⟨rfl, (Fr.refl [] w).alloc _⟩

theorem kept_two {w : World} (o1 o2 : Obj) : Fr [] w ((w.alloc o1).alloc o2) := ((Fr.refl [] w).alloc o1).alloc o2

set_option maxHeartbeats 2000000 in
theorem right_no (w : World) (r : Rec) (s : Spots) (h : headB r = false) : Calls Tryz.prog 254 #[.agg (recV r s)] w fun e w' => e = .returned (.bool false) ∧ Fr [] w w' := by
  obtain ⟨lsn, turn, kind, tx, prev, next, block, off, old, new⟩ := r
  unfold recV
  unfold headB at h
  dsimp only at h ⊢
  generalize old.length = no
  generalize new.length = nn
  by_cases h0 : 1 ≤ lsn
  · by_cases h1 : lsn ≤ 4611686018427387904
    · by_cases h2 : 1 ≤ turn
      · by_cases h3 : turn ≤ 2147483647
        · cases h4 : placeB tx
          · clear h
            go_enter Tryz.func254, Tryz.ntmps254
            go_wp2_with (first | (go_at_call 278; refine (isPlace_any _ _).mono ?_; rintro e w' ⟨rfl, rfl⟩))
            go_ret
            exact ⟨rfl, (Fr.refl [] w).alloc _⟩
          · cases h5 : placeB prev
            · clear h
              go_enter Tryz.func254, Tryz.ntmps254
              go_wp2_with (first | (go_at_call 278; refine (isPlace_any _ _).mono ?_; rintro e w' ⟨rfl, rfl⟩))
              go_ret
              exact ⟨rfl, (Fr.refl [] w).alloc _⟩
            · rw [decide_eq_true h0, decide_eq_true h1, decide_eq_true h2, decide_eq_true h3, h4, h5] at h; cases h
        · clear h
          go_enter Tryz.func254, Tryz.ntmps254
          go_wp2_with fail
          go_ret
          exact ⟨rfl, (Fr.refl [] w).alloc _⟩
      · clear h
        go_enter Tryz.func254, Tryz.ntmps254
        go_wp2_with fail
        go_ret
        exact ⟨rfl, (Fr.refl [] w).alloc _⟩
    · clear h
      go_enter Tryz.func254, Tryz.ntmps254
      go_wp2_with fail
      go_ret
      exact ⟨rfl, (Fr.refl [] w).alloc _⟩
  · clear h
    go_enter Tryz.func254, Tryz.ntmps254
    go_wp2_with fail
    go_ret
    exact ⟨rfl, (Fr.refl [] w).alloc _⟩

end Go.Proofs.YtopaeomjndblkaaGreat
