/-
  Numbers put behind a row: the program's put.
-/
import Derived.Test.YthajipigppndgaaGreatY01Z
import Derived.Test.YthajipigppndgaaGreatY00Z
namespace Go.Proofs.YthajipigppndgaaGreat
open Go.RowKit Go.Maps

structure Rec where
  lsn : Int
  turn : Int
  kind : Nat
  tx : Int
  prev : Int
  next : Int
  block : Int
  off : Int
  old : List UInt8
  new : List UInt8

def placeB (n : Int) : Bool := decide (0 ≤ n) && decide (n ≤ 4611686018427387904)
def fitsB (b o : Int) (m : Nat) : Bool := decide (0 ≤ b) && decide (b < 65536) && decide (0 ≤ o) && decide (0 < m) && decide (o ≤ 512 - (m : Int))
def headB (r : Rec) : Bool := decide (1 ≤ r.lsn) && decide (r.lsn ≤ 4611686018427387904) && decide (1 ≤ r.turn) && decide (r.turn ≤ 2147483647) && placeB r.tx && placeB r.prev
def kindB (r : Rec) : Bool :=
  if r.kind = 1 then decide (r.next = 0) && (fitsB r.block r.off r.new.length && decide (r.old.length = r.new.length))
  else if r.kind = 2 then placeB r.next && (fitsB r.block r.off r.new.length && decide (r.old.length = 0))
  else if r.kind = 3 ∨ r.kind = 4 then decide (r.next = 0) && (decide (r.block = 0) && (decide (r.off = 0) && (decide (r.old.length = 0) && decide (r.new.length = 0))))
  else false
def rightB (r : Rec) : Bool := headB r && kindB r

/-- Where a record's lists lie. -/
structure Spots where
  a1 : Option Addr
  c1 : Nat
  a2 : Option Addr
  c2 : Nat
def spanV (r : Rec) (s : Spots) : Array Value := #[.int .i64 r.block, .int .i64 r.off, .slice s.a1 r.old.length s.c1, .slice s.a2 r.new.length s.c2]
def recV (r : Rec) (s : Spots) : Array Value := #[.int .i64 r.lsn, .int .i64 r.turn, .int .u8 (r.kind : Int), .int .i64 r.tx, .int .i64 r.prev, .int .i64 r.next, .int .i64 r.block, .int .i64 r.off, .slice s.a1 r.old.length s.c1, .slice s.a2 r.new.length s.c2]

set_option maxHeartbeats 400000 in
theorem isPlace_any (w : World) (n : Int) : Calls Tryz.prog 289 #[.int .i64 n] w fun e w' => e = .returned (.bool (placeB n)) ∧ w' = w := by
  unfold placeB
  by_cases h1 : 0 ≤ n
  · by_cases h2 : n ≤ 4611686018427387904
    · rw [decide_eq_true h1, decide_eq_true h2]
      go_enter Tryz.func289, Tryz.ntmps289
      go_wp2
      go_ret
      exact ⟨rfl, rfl⟩
    · rw [decide_eq_true h1, decide_eq_false h2]
      go_enter Tryz.func289, Tryz.ntmps289
      go_wp2
      go_ret
      exact ⟨rfl, rfl⟩
  · rw [decide_eq_false h1]
    go_enter Tryz.func289, Tryz.ntmps289
    go_wp2
    go_ret
    exact ⟨rfl, rfl⟩

set_option maxHeartbeats 1000000 in
theorem fits_any (w : World) (b o : Int) (n c1 m c2 : Nat) (a1 a2 : Option Addr) (hm : m ≤ 1000000) : Calls Tryz.prog 290 #[.agg #[.int .i64 b, .int .i64 o, .slice a1 n c1, .slice a2 m c2]] w fun e w' => e = .returned (.bool (fitsB b o m)) ∧ Fr [] w w' := by
  unfold fitsB
  have hw : IntKind.i64.wrap (512 - (m : Int)) = 512 - (m : Int) := by simp [IntKind.wrap, IntKind.signed, IntKind.bits]; omega
  by_cases h0 : 0 ≤ b
  · by_cases h1 : b < 65536
    · by_cases h2 : 0 ≤ o
      · by_cases h3 : 0 < m
        · by_cases h4 : o ≤ 512 - (m : Int)
          · rw [decide_eq_true h0, decide_eq_true h1, decide_eq_true h2, decide_eq_true h3, decide_eq_true h4]
            go_enter Tryz.func290, Tryz.ntmps290
            go_wp2_with fail
            go_ret
            exact ⟨rfl, (Fr.refl [] w).alloc _⟩
          · rw [decide_eq_true h0, decide_eq_true h1, decide_eq_true h2, decide_eq_true h3, decide_eq_false h4]
            go_enter Tryz.func290, Tryz.ntmps290
            go_wp2_with fail
            go_ret
            exact ⟨rfl, (Fr.refl [] w).alloc _⟩
        · rw [decide_eq_true h0, decide_eq_true h1, decide_eq_true h2, decide_eq_false h3]; have hm0 : ¬ (0 : Int) < (m : Int) := (by omega)
          go_enter Tryz.func290, Tryz.ntmps290
          go_wp2_with fail
          go_ret
          exact ⟨rfl, (Fr.refl [] w).alloc _⟩
      · rw [decide_eq_true h0, decide_eq_true h1, decide_eq_false h2]
        go_enter Tryz.func290, Tryz.ntmps290
        go_wp2_with fail
        go_ret
        exact ⟨rfl, (Fr.refl [] w).alloc _⟩
    · rw [decide_eq_true h0, decide_eq_false h1]
      go_enter Tryz.func290, Tryz.ntmps290
      go_wp2_with fail
      go_ret
      exact ⟨rfl, (Fr.refl [] w).alloc _⟩
  · rw [decide_eq_false h0]
    go_enter Tryz.func290, Tryz.ntmps290
    go_wp2_with fail
    go_ret
    exact ⟨rfl, (Fr.refl [] w).alloc _⟩

theorem kept_two {w : World} (o1 o2 : Obj) : Fr [] w ((w.alloc o1).alloc o2) := ((Fr.refl [] w).alloc o1).alloc o2

set_option maxHeartbeats 2000000 in
theorem right_no (w : World) (r : Rec) (s : Spots) (h : headB r = false) : Calls Tryz.prog 262 #[.agg (recV r s)] w fun e w' => e = .returned (.bool false) ∧ Fr [] w w' := by
  obtain ⟨lsn, turn, kind, tx, prev, next, block, off, old, new⟩ := r
  unfold recV
  unfold headB at h
  dsimp only at h ⊢
  generalize old.length = no
  generalize new.length = nn
  by_cases h0 : 1 ≤ lsn
  · by_cases h1 : lsn ≤ 4611686018427387904
    · by_cases h2 : 1 ≤ turn
      · by_cases h3 : turn ≤ 2147483647
        · cases h4 : placeB tx
          · clear h
            go_enter Tryz.func262, Tryz.ntmps262
            go_wp2_with (first | (go_at_call 289; refine (isPlace_any _ _).mono ?_; rintro e w' ⟨rfl, rfl⟩))
            go_ret
            exact ⟨rfl, (Fr.refl [] w).alloc _⟩
          · cases h5 : placeB prev
            · clear h
              go_enter Tryz.func262, Tryz.ntmps262
              go_wp2_with (first | (go_at_call 289; refine (isPlace_any _ _).mono ?_; rintro e w' ⟨rfl, rfl⟩))
              go_ret
              exact ⟨rfl, (Fr.refl [] w).alloc _⟩
            · rw [decide_eq_true h0, decide_eq_true h1, decide_eq_true h2, decide_eq_true h3, h4, h5] at h; cases h
        · clear h
          go_enter Tryz.func262, Tryz.ntmps262
          go_wp2_with fail
          go_ret
          exact ⟨rfl, (Fr.refl [] w).alloc _⟩
      · clear h
        go_enter Tryz.func262, Tryz.ntmps262
        go_wp2_with fail
        go_ret
        exact ⟨rfl, (Fr.refl [] w).alloc _⟩
    · clear h
      go_enter Tryz.func262, Tryz.ntmps262
      go_wp2_with fail
      go_ret
      exact ⟨rfl, (Fr.refl [] w).alloc _⟩
  · clear h
    go_enter Tryz.func262, Tryz.ntmps262
    go_wp2_with fail
    go_ret
    exact ⟨rfl, (Fr.refl [] w).alloc _⟩

end Go.Proofs.YthajipigppndgaaGreat

namespace Go.Proofs.YthajipigppndgaaGreat
open Go.RowKit Go.Maps

theorem shb (x s : Nat) : ((x : Int) / 2 ^ s % 256).toNat = x / 2 ^ s % 256 := by
  rw [show ((2 : Int) ^ s) = ((2 ^ s : Nat) : Int) by simp, ← Int.natCast_ediv]
  omega
theorem sha (x s : Nat) : ((x : Int) / 2 ^ s).toNat = x / 2 ^ s := by
  rw [show ((2 : Int) ^ s) = ((2 ^ s : Nat) : Int) by simp, ← Int.natCast_ediv]
  exact Int.toNat_natCast _
theorem pow256 (j : Nat) : 2 ^ (8 * j) = 256 ^ j := by rw [Nat.pow_mul]

set_option maxHeartbeats 1000000 in
set_option maxRecDepth 100000 in
theorem put64_any (w0 w : World) (v : Value) (n : Nat) (l : List UInt8) (x : Nat) (X : Int) (hX : X = x) (hx : x < 18446744073709551616) (hl : l.length = n) (hn : n ≤ 100000) (hown : Own w0 w v n (arr l).toList) :
    Calls Tryz.prog 238 #[v, .int .u64 X] w fun e w' => ∃ v', e = .returned v' ∧ Own w0 w' v' (n + 8) (arr (l ++ beK 8 x)).toList := by
  have HX : Hid (X = x) := hX
  have hx0 : 0 ≤ X := by omega
  have hx1 : X < 18446744073709551616 := by omega
  clear hX
  go_enter Tryz.func238, Tryz.ntmps238
  go_wp2_with (go_at_call 266; refine (width64_any _).mono ?_; rintro e w' ⟨rfl, rfl⟩)
  go_loopw [0, 5] (fun v s wr => ∃ j : Nat, j ≤ 8 ∧ s = .int .i64 (56 - 8 * (j : Int)) ∧ Own w0 wr v (n + j) (arr (l ++ beK j (x / 256 ^ (8 - j)))).toList) (fun _ s _ => (intOf s + 8).toNat)
  case atStart => exact ⟨0, by omega, rfl, by simpa [beK] using hown⟩
  case round =>
    obtain ⟨j, hj, rfl, ow⟩ := hrel
    by_cases hlt : j < 8
    · obtain ⟨s, HS⟩ : ∃ s : Nat, Hid (s + 8 * j = 56) := ⟨56 - 8 * j, (by omega : 56 - 8 * j + 8 * j = 56)⟩
      have hsj : (56 - 8 * (j : Int)) = (s : Int) := by have := HS.out; omega
      rw [hsj]
      have hs0 : (0 : Int) ≤ (s : Int) := by omega
      have hs1 : (s : Int) < 64 := by have := HS.out; omega
      have hb0 : 0 ≤ X / 2 ^ s % 256 := by omega
      have hb1 : X / 2 ^ s % 256 < 256 := by omega
      clear hsj
      go_wp2_with (refine wp_app rfl _ _ rfl w0 _ (n + j) _ rfl (ow.kept ((Fr.refl [] wr).alloc _)) _ 1 _ [UInt8.ofNat (X / 2 ^ s % 256).toNat] rfl rfl (oneByte (X / 2 ^ s % 256) hb0 hb1 wr) (by omega) (fun h => absurd h (by omega)) ?_; intro v5 w5 o5)
      refine ⟨⟨j + 1, by omega, ?_, ?_⟩, ?_⟩
      · have := HS.out; go_num
      · have hbyte : UInt8.ofNat (X / 2 ^ s % 256).toNat = UInt8.ofNat (x / 256 ^ (8 - j - 1)) := by
          have hs := HS.out
          rw [HX.out, shb, show s = 8 * (8 - j - 1) by omega, pow256]
          apply UInt8.toNat_inj.1
          rw [u8_ofNat_toNat, u8_ofNat_toNat]
          omega
        rw [hbyte, arr_append, List.append_assoc, beK_step 8 j x hlt] at o5
        exact o5
      · have := HS.out; simp [intOf]; omega
    · obtain rfl : j = 8 := by omega
      go_wp2
      go_ret
      exact ⟨_, rfl, by simpa using ow⟩

set_option maxHeartbeats 1000000 in
set_option maxRecDepth 100000 in
theorem put32_any (w0 w : World) (v : Value) (n : Nat) (l : List UInt8) (x : Nat) (X : Int) (hX : X = x) (hx : x < 4294967296) (hl : l.length = n) (hn : n ≤ 100000) (hown : Own w0 w v n (arr l).toList) :
    Calls Tryz.prog 239 #[v, .int .u32 X] w fun e w' => ∃ v', e = .returned v' ∧ Own w0 w' v' (n + 4) (arr (l ++ beK 4 x)).toList := by
  have HX : Hid (X = x) := hX
  have hx0 : 0 ≤ X := by omega
  have hx1 : X < 4294967296 := by omega
  clear hX
  go_enter Tryz.func239, Tryz.ntmps239
  go_wp2_with (go_at_call 267; refine (width32_any _).mono ?_; rintro e w' ⟨rfl, rfl⟩)
  go_loopw [0, 5] (fun v s wr => ∃ j : Nat, j ≤ 4 ∧ s = .int .i64 (24 - 8 * (j : Int)) ∧ Own w0 wr v (n + j) (arr (l ++ beK j (x / 256 ^ (4 - j)))).toList) (fun _ s _ => (intOf s + 8).toNat)
  case atStart => exact ⟨0, by omega, rfl, by simpa [beK] using hown⟩
  case round =>
    obtain ⟨j, hj, rfl, ow⟩ := hrel
    by_cases hlt : j < 4
    · obtain ⟨s, HS⟩ : ∃ s : Nat, Hid (s + 8 * j = 24) := ⟨24 - 8 * j, (by omega : 24 - 8 * j + 8 * j = 24)⟩
      have hsj : (24 - 8 * (j : Int)) = (s : Int) := by have := HS.out; omega
      rw [hsj]
      have hs0 : (0 : Int) ≤ (s : Int) := by omega
      have hs1 : (s : Int) < 32 := by have := HS.out; omega
      have hb0 : 0 ≤ X / 2 ^ s % 256 := by omega
      have hb1 : X / 2 ^ s % 256 < 256 := by omega
      clear hsj
      go_wp2_with (refine wp_app rfl _ _ rfl w0 _ (n + j) _ rfl (ow.kept ((Fr.refl [] wr).alloc _)) _ 1 _ [UInt8.ofNat (X / 2 ^ s % 256).toNat] rfl rfl (oneByte (X / 2 ^ s % 256) hb0 hb1 wr) (by omega) (fun h => absurd h (by omega)) ?_; intro v5 w5 o5)
      refine ⟨⟨j + 1, by omega, ?_, ?_⟩, ?_⟩
      · have := HS.out; go_num
      · have hbyte : UInt8.ofNat (X / 2 ^ s % 256).toNat = UInt8.ofNat (x / 256 ^ (4 - j - 1)) := by
          have hs := HS.out
          rw [HX.out, shb, show s = 8 * (4 - j - 1) by omega, pow256]
          apply UInt8.toNat_inj.1
          rw [u8_ofNat_toNat, u8_ofNat_toNat]
          omega
        rw [hbyte, arr_append, List.append_assoc, beK_step 4 j x hlt] at o5
        exact o5
      · have := HS.out; simp [intOf]; omega
    · obtain rfl : j = 4 := by omega
      go_wp2
      go_ret
      exact ⟨_, rfl, by simpa using ow⟩

set_option maxHeartbeats 1000000 in
set_option maxRecDepth 100000 in
theorem put16_any (w0 w : World) (v : Value) (n : Nat) (l : List UInt8) (x : Nat) (X : Int) (hX : X = x) (hx : x < 65536) (hl : l.length = n) (hn : n ≤ 100000) (hown : Own w0 w v n (arr l).toList) :
    Calls Tryz.prog 264 #[v, .int .u16 X] w fun e w' => ∃ v', e = .returned v' ∧ Own w0 w' v' (n + 2) (arr (l ++ beK 2 x)).toList := by
  have HX : Hid (X = x) := hX
  have hx0 : 0 ≤ X := by omega
  have hx1 : X < 65536 := by omega
  clear hX
  go_enter Tryz.func264, Tryz.ntmps264
  go_wp2_with (go_at_call 291; refine (width16_any _).mono ?_; rintro e w' ⟨rfl, rfl⟩)
  go_loopw [0, 5] (fun v s wr => ∃ j : Nat, j ≤ 2 ∧ s = .int .i64 (8 - 8 * (j : Int)) ∧ Own w0 wr v (n + j) (arr (l ++ beK j (x / 256 ^ (2 - j)))).toList) (fun _ s _ => (intOf s + 8).toNat)
  case atStart => exact ⟨0, by omega, rfl, by simpa [beK] using hown⟩
  case round =>
    obtain ⟨j, hj, rfl, ow⟩ := hrel
    by_cases hlt : j < 2
    · obtain ⟨s, HS⟩ : ∃ s : Nat, Hid (s + 8 * j = 8) := ⟨8 - 8 * j, (by omega : 8 - 8 * j + 8 * j = 8)⟩
      have hsj : (8 - 8 * (j : Int)) = (s : Int) := by have := HS.out; omega
      rw [hsj]
      have hs0 : (0 : Int) ≤ (s : Int) := by omega
      have hs1 : (s : Int) < 16 := by have := HS.out; omega
      have hb0 : 0 ≤ X / 2 ^ s % 256 := by omega
      have hb1 : X / 2 ^ s % 256 < 256 := by omega
      clear hsj
      go_wp2_with (refine wp_app rfl _ _ rfl w0 _ (n + j) _ rfl (ow.kept ((Fr.refl [] wr).alloc _)) _ 1 _ [UInt8.ofNat (X / 2 ^ s % 256).toNat] rfl rfl (oneByte (X / 2 ^ s % 256) hb0 hb1 wr) (by omega) (fun h => absurd h (by omega)) ?_; intro v5 w5 o5)
      refine ⟨⟨j + 1, by omega, ?_, ?_⟩, ?_⟩
      · have := HS.out; go_num
      · have hbyte : UInt8.ofNat (X / 2 ^ s % 256).toNat = UInt8.ofNat (x / 256 ^ (2 - j - 1)) := by
          have hs := HS.out
          rw [HX.out, shb, show s = 8 * (2 - j - 1) by omega, pow256]
          apply UInt8.toNat_inj.1
          rw [u8_ofNat_toNat, u8_ofNat_toNat]
          omega
        rw [hbyte, arr_append, List.append_assoc, beK_step 2 j x hlt] at o5
        exact o5
      · have := HS.out; simp [intOf]; omega
    · obtain rfl : j = 2 := by omega
      go_wp2
      go_ret
      exact ⟨_, rfl, by simpa using ow⟩

set_option maxHeartbeats 1000000 in
set_option maxRecDepth 100000 in
theorem put8_any (w0 w : World) (v : Value) (n : Nat) (l : List UInt8) (x : Nat) (X : Int) (hX : X = x) (hx : x < 256) (hl : l.length = n) (hn : n ≤ 100000) (hown : Own w0 w v n (arr l).toList) :
    Calls Tryz.prog 240 #[v, .int .u8 X] w fun e w' => ∃ v', e = .returned v' ∧ Own w0 w' v' (n + 1) (arr (l ++ beK 1 x)).toList := by
  have HX : Hid (X = x) := hX
  have hx0 : 0 ≤ X := by omega
  have hx1 : X < 256 := by omega
  clear hX
  go_enter Tryz.func240, Tryz.ntmps240
  go_wp2_with (go_at_call 268; refine (width8_any _).mono ?_; rintro e w' ⟨rfl, rfl⟩)
  go_loopw [0, 5] (fun v s wr => ∃ j : Nat, j ≤ 1 ∧ s = .int .i64 (0 - 8 * (j : Int)) ∧ Own w0 wr v (n + j) (arr (l ++ beK j (x / 256 ^ (1 - j)))).toList) (fun _ s _ => (intOf s + 8).toNat)
  case atStart => exact ⟨0, by omega, rfl, by simpa [beK] using hown⟩
  case round =>
    obtain ⟨j, hj, rfl, ow⟩ := hrel
    by_cases hlt : j < 1
    · obtain ⟨s, HS⟩ : ∃ s : Nat, Hid (s + 8 * j = 0) := ⟨0 - 8 * j, (by omega : 0 - 8 * j + 8 * j = 0)⟩
      have hsj : (0 - 8 * (j : Int)) = (s : Int) := by have := HS.out; omega
      rw [hsj]
      have hs0 : (0 : Int) ≤ (s : Int) := by omega
      have hs1 : (s : Int) < 8 := by have := HS.out; omega
      have hb0 : 0 ≤ X / 2 ^ s := by rw [(by have h := HS.out; omega : s = 0)]; simpa using hx0
      have hb1 : X / 2 ^ s < 256 := by rw [(by have h := HS.out; omega : s = 0)]; simpa using hx1
      clear hsj
      go_wp2_with (refine wp_app rfl _ _ rfl w0 _ (n + j) _ rfl (ow.kept ((Fr.refl [] wr).alloc _)) _ 1 _ [UInt8.ofNat (X / 2 ^ s).toNat] rfl rfl (oneByte (X / 2 ^ s) hb0 hb1 wr) (by omega) (fun h => absurd h (by omega)) ?_; intro v5 w5 o5)
      refine ⟨⟨j + 1, by omega, ?_, ?_⟩, ?_⟩
      · have := HS.out; go_num
      · have hbyte : UInt8.ofNat (X / 2 ^ s).toNat = UInt8.ofNat (x / 256 ^ (1 - j - 1)) := by
          have hs := HS.out
          rw [HX.out, sha, show s = 8 * (1 - j - 1) by omega, pow256]
        rw [hbyte, arr_append, List.append_assoc, beK_step 1 j x hlt] at o5
        exact o5
      · have := HS.out; simp [intOf]; omega
    · obtain rfl : j = 1 := by omega
      go_wp2
      go_ret
      exact ⟨_, rfl, by simpa using ow⟩

end Go.Proofs.YthajipigppndgaaGreat

