/-
  Numbers put behind a row: the program's put.
-/
import Derived.Test.YtopaeomjndblkaaGreatY01Z
import Derived.OwnWalk
namespace Go.Proofs.YtopaeomjndblkaaGreat
open Go.RowKit Go.Maps

set_option maxHeartbeats 400000 in
set_option maxRecDepth 100000 in
theorem kput_any (w0 w : World) (v : Value) (n : Nat) (xs : List Value) (hown : Own w0 w v n xs) (b k c : Nat) (l : List UInt8) (hl : l.length = k) (hsrc : BytesAt w (some ⟨b, 0, none⟩) l) (hk : n + k ≤ 1000000) :
    Calls Tryz.prog 243 #[v, .slice (some ⟨b, 0, none⟩) k c] w fun e w' => ∃ v', e = .returned v' ∧ Own w0 w' v' (n + k) (xs ++ (arr l).toList) := by
  go_enter Tryz.func243, Tryz.ntmps243
  go_wp2_with (refine wp_app rfl _ _ rfl w0 v n xs rfl hown _ k c l rfl hl hsrc hk (fun _ => ⟨_, rfl⟩) ?_; intro v' w' o')
  go_ret
  exact ⟨v', rfl, o'⟩

theorem one_src (w : World) (b : UInt8) (x : Int) (hx : x = b.toNat) : BytesAt (w.alloc (.cells #[.int .u8 x] 5)) (some ⟨w.heap.size, 0, none⟩) [b] := by
  subst hx
  exact Blk.bytes (l := [b]) (heap_alloc_new _ _)
theorem Own.of_eq {w0 w : World} {v : Value} {n m : Nat} {l l' : List UInt8} (h : Own w0 w v n (arr l).toList) (e : l = l') (hm : n = m) : Own w0 w v m (arr l').toList := by
  subst e hm
  exact h
theorem Own.app {w0 w : World} {v : Value} {n m k : Nat} {l l' r : List UInt8} (h : Own w0 w v (n + k) ((arr l).toList ++ (arr l').toList)) (e : l ++ l' = r) (hm : n + k = m) : Own w0 w v m (arr r).toList := by
  subst e hm
  rw [arr_append] at h
  exact h

theorem be_take_step (u i : Nat) (h : i < 8) : (be 8 u).take (i + 1) = (be 8 u).take i ++ [UInt8.ofNat (u / 256 ^ (7 - i))] := by
  have h8 := be_length 8 u
  rw [List.take_succ_eq_append_getElem (by omega)]
  congr 2
  have := be_at 8 u i h
  rw [List.getElem?_eq_getElem (by omega)] at this
  exact Option.some.inj this

set_option maxHeartbeats 1000000 in
set_option maxRecDepth 100000 in
theorem putInt_any (w : World) (n : Int) (u : Nat) (hu : n + 9223372036854775808 = (u : Int)) (hu1 : u < 18446744073709551616) :
    Calls Tryz.prog 208 #[.int .i64 n] w fun e w' => ∃ v, e = .returned v ∧ Own w w' v 8 (arr (be 8 u)).toList := by
  have hU : IntKind.u64.wrap (IntKind.u64.wrap n + 9223372036854775808) = (u : Int) := by
    unfold IntKind.wrap
    simp [IntKind.signed, IntKind.bits]
    omega
  go_enter Tryz.func208, Tryz.ntmps208
  go_wp2_with (refine wp_make0 rfl _ _ rfl 8 rfl (by rfl) (by omega) w (Fr.refl _ _) ?_; intro w1 o1)
  clear hU hu
  generalize IntKind.u64.wrap n = wn
  obtain ⟨U, HU⟩ : ∃ U : Int, Hid ((u : Int) = U) := ⟨_, rfl⟩
  rw [HU.out]
  go_loopw [4, 10] (fun v i wr => ∃ j : Nat, j ≤ 8 ∧ i = .int .i64 j ∧ Own w wr v j (arr ((be 8 u).take j)).toList) (fun _ i _ => 8 - (intOf i).toNat)
  case atStart => exact ⟨0, by omega, rfl, o1⟩
  case round =>
    obtain ⟨j, hj, rfl, ow⟩ := hrel
    by_cases hlt : j < 8
    · have hlt' : (j : Int) < 8 := by omega
      have hj0 : (0 : Int) ≤ (j : Int) := by omega
      have HB : Hid (U / 2 ^ (8 * (7 - j)) % 256 = ((UInt8.ofNat (u / 256 ^ (7 - j))).toNat : Int)) := by
        show _ = _
        rw [← HU.out, UInt8.toNat_ofNat', show (256 : Nat) ^ (7 - j) = 2 ^ (8 * (7 - j)) by rw [Nat.pow_mul]]
        simp
      go_wp2_with (go_at_call 243; refine (kput_any w _ _ _ _ (ow.kept ((Fr.refl [] _).alloc _)) _ 1 _ [UInt8.ofNat (u / 256 ^ (7 - j))] rfl (one_src _ _ _ HB.out) (by omega)).mono ?_; rintro e w5 ⟨v5, rfl, o5⟩)
      refine ⟨⟨j + 1, by omega, by go_num, o5.app ?_ rfl⟩, by simp [intOf]; omega⟩
      rw [be_take_step u j hlt]
    · obtain rfl : j = 8 := by omega
      go_wp2
      go_ret
      refine ⟨_, rfl, ow.of_eq ?_ rfl⟩
      exact List.take_of_length_le (by rw [be_length]; omega)

theorem kor_low (A x : Nat) (hA : A < 72057594037927936) (hx : x < 256) : bits .or .u64 (IntKind.u64.wrap ((A : Int) * 256)) (IntKind.u64.wrap (x : Int)) = ((256 * A + x : Nat) : Int) := by
  have e1 : IntKind.u64.wrap ((A : Int) * 256) = ((A * 256 : Nat) : Int) := by
    unfold IntKind.wrap
    simp [IntKind.signed, IntKind.bits]
    omega
  have e2 : IntKind.u64.wrap (x : Int) = (x : Int) := by
    unfold IntKind.wrap
    simp [IntKind.signed, IntKind.bits]
    omega
  rw [e1, e2, u64_or_nat _ _ (by omega) (by omega), nat_join 8 _ _ (by omega) (by omega), Nat.mul_comm]

theorem sub_mid (u : Nat) (h : u < 18446744073709551616) : wrap64 (IntKind.u64.wrap ((u : Int) - 9223372036854775808)) = (u : Int) - 9223372036854775808 := by
  unfold wrap64 IntKind.wrap
  simp [IntKind.signed, IntKind.bits]
  omega

set_option maxHeartbeats 1000000 in
set_option maxRecDepth 100000 in
theorem getInt_any (w : World) (ad : Option Addr) (n c : Nat) (l : List UInt8) (hl : l.length = n) (hb : BytesAt w ad l) (hn : 8 ≤ n) (hm : n < 9223372036854775808) :
    Calls Tryz.prog 205 #[.slice ad n c] w fun e w' => e = .returned (.tuple #[.int .i64 ((ofBe (l.take 8) : Int) - 9223372036854775808), .int .i64 8, .bool true]) ∧ w' = w := by
  have HL : Hid (l.length = n) := hl
  clear hl
  go_enter Tryz.func205, Tryz.ntmps205
  go_wp2
  go_loopw [5, 10] (fun v i wr => ∃ j : Nat, j ≤ 8 ∧ i = .int .i64 j ∧ v = .int .u64 (ofBe (l.take j)) ∧ wr = w) (fun _ i _ => 8 - (intOf i).toNat)
  case atStart => exact ⟨0, by omega, rfl, rfl, rfl⟩
  case round =>
    obtain ⟨j, hj, rfl, rfl, rfl⟩ := hrel
    have hA : Hid (ofBe (l.take j) < 256 ^ j) := by
      have h1 := ofBe_lt (l.take j)
      rw [List.length_take, HL.out, Nat.min_eq_left (by omega)] at h1
      exact h1
    by_cases hlt : j < 8
    · have hlt' : (j : Int) < 8 := by omega
      have hj0 : (0 : Int) ≤ (j : Int) := by omega
      have g1 : j < l.length := by rw [HL.out]; omega
      obtain ⟨b1, o1, e1, q1⟩ := hb j (.int .u8 l[j].toNat) (by simp [arr, g1])
      subst e1
      have hjn : (j : Int) < (n : Int) := by omega
      obtain ⟨x, HX⟩ : ∃ x : Int, Hid ((l[j].toNat : Int) = x) := ⟨(l[j].toNat : Int), rfl⟩
      rw [HX.out] at q1
      obtain ⟨A, HA⟩ : ∃ A : Int, Hid ((ofBe (l.take j) : Int) = A) := ⟨_, rfl⟩
      rw [HA.out]
      go_wp2
      refine ⟨⟨j + 1, by omega, by go_num, ?_, trivial⟩, by simp [intOf]; omega⟩
      rw [← HA.out, ← HX.out, kor_low _ _ (Nat.lt_of_lt_of_le hA.out (by
        have : 256 ^ j ≤ 256 ^ 7 := Nat.pow_le_pow_right (by omega) (by omega)
        omega)) (l[j].toNat_lt), List.take_succ_eq_append_getElem g1, ofBe_snoc]
    · obtain rfl : j = 8 := by omega
      obtain ⟨A, HA⟩ : ∃ A : Int, Hid ((ofBe (l.take 8) : Int) = A) := ⟨_, rfl⟩
      rw [HA.out]
      go_wp2
      go_ret3
      rw [← HA.out]
      exact ⟨by rw [sub_mid _ hA.out]; rfl, rfl⟩

end Go.Proofs.YtopaeomjndblkaaGreat

namespace Go.Proofs.YtopaeomjndblkaaGreat
open Go.RowKit Go.Maps

structure Rec where
  lsn : Int
  turn : Int
  kind : Nat
  tx : Int
  prev : Int
  next : Int
  block : Int
  off : Int
  old : List UInt8
  new : List UInt8

def placeB (n : Int) : Bool := decide (0 ≤ n) && decide (n ≤ 4611686018427387904)
def fitsB (b o : Int) (m : Nat) : Bool := decide (0 ≤ b) && decide (b < 65536) && decide (0 ≤ o) && decide (0 < m) && decide (o ≤ 512 - (m : Int))
def headB (r : Rec) : Bool := decide (1 ≤ r.lsn) && decide (r.lsn ≤ 4611686018427387904) && decide (1 ≤ r.turn) && decide (r.turn ≤ 2147483647) && placeB r.tx && placeB r.prev
def kindB (r : Rec) : Bool :=
  if r.kind = 1 then decide (r.next = 0) && (fitsB r.block r.off r.new.length && decide (r.old.length = r.new.length))
  else if r.kind = 2 then placeB r.next && (fitsB r.block r.off r.new.length && decide (r.old.length = 0))
  else if r.kind = 3 ∨ r.kind = 4 then decide (r.next = 0) && (decide (r.block = 0) && (decide (r.off = 0) && (decide (r.old.length = 0) && decide (r.new.length = 0))))
  else false
def rightB (r : Rec) : Bool := headB r && kindB r

/-- Where a record's lists lie. -/
structure Spots where
  a1 : Option Addr
  c1 : Nat
  a2 : Option Addr
  c2 : Nat
def spanV (r : Rec) (s : Spots) : Array Value := #[.int .i64 r.block, .int .i64 r.off, .slice s.a1 r.old.length s.c1, .slice s.a2 r.new.length s.c2]
def recV (r : Rec) (s : Spots) : Array Value := #[.int .i64 r.lsn, .int .i64 r.turn, .int .u8 (r.kind : Int), .int .i64 r.tx, .int .i64 r.prev, .int .i64 r.next, .int .i64 r.block, .int .i64 r.off, .slice s.a1 r.old.length s.c1, .slice s.a2 r.new.length s.c2]

set_option maxHeartbeats 400000 in
theorem isPlace_any (w : World) (n : Int) : Calls Tryz.prog 278 #[.int .i64 n] w fun e w' => e = .returned (.bool (placeB n)) ∧ w' = w := by
  unfold placeB
  by_cases h1 : 0 ≤ n
  · by_cases h2 : n ≤ 4611686018427387904
    · rw [decide_eq_true h1, decide_eq_true h2]
      go_enter Tryz.func278, Tryz.ntmps278
      go_wp2
      go_ret
      exact ⟨rfl, rfl⟩
    · rw [decide_eq_true h1, decide_eq_false h2]
      go_enter Tryz.func278, Tryz.ntmps278
      go_wp2
      go_ret
      exact ⟨rfl, rfl⟩
  · rw [decide_eq_false h1]
    go_enter Tryz.func278, Tryz.ntmps278
    go_wp2
    go_ret
    exact ⟨rfl, rfl⟩

set_option maxHeartbeats 1000000 in
theorem fits_any (w : World) (b o : Int) (n c1 m c2 : Nat) (a1 a2 : Option Addr) (hm : m ≤ 1000000) : Calls Tryz.prog 279 #[.agg #[.int .i64 b, .int .i64 o, .slice a1 n c1, .slice a2 m c2]] w fun e w' => e = .returned (.bool (fitsB b o m)) ∧ Fr [] w w' := by
  unfold fitsB
  have hw : IntKind.i64.wrap (512 - (m : Int)) = 512 - (m : Int) := by simp [IntKind.wrap, IntKind.signed, IntKind.bits]; omega
  by_cases h0 : 0 ≤ b
  · by_cases h1 : b < 65536
    · by_cases h2 : 0 ≤ o
      · by_cases h3 : 0 < m
        · by_cases h4 : o ≤ 512 - (m : Int)
          · rw [decide_eq_true h0, decide_eq_true h1, decide_eq_true h2, decide_eq_true h3, decide_eq_true h4]
            go_enter Tryz.func279, Tryz.ntmps279
            go_wp2_with fail
            go_ret
            exact ⟨rfl, (Fr.refl [] w).alloc _⟩
          · rw [decide_eq_true h0, decide_eq_true h1, decide_eq_true h2, decide_eq_true h3, decide_eq_false h4]
            go_enter Tryz.func279, Tryz.ntmps279
            go_wp2_with fail
            go_ret
            exact ⟨rfl, (Fr.refl [] w).alloc _⟩
        · rw [decide_eq_true h0, decide_eq_true h1, decide_eq_true h2, decide_eq_false h3]; have hm0 : ¬ (0 : Int) < (m : Int) := (by omega)
          go_enter Tryz.func279, Tryz.ntmps279
          go_wp2_with fail
          go_ret
          exact ⟨rfl, (Fr.refl [] w).alloc _⟩
      · rw [decide_eq_true h0, decide_eq_true h1, decide_eq_false h2]
        go_enter Tryz.func279, Tryz.ntmps279
        go_wp2_with fail
        go_ret
        exact ⟨rfl, (Fr.refl [] w).alloc _⟩
    · rw [decide_eq_true h0, decide_eq_false h1]
      go_enter Tryz.func279, Tryz.ntmps279
      go_wp2_with fail
      go_ret
      exact ⟨rfl, (Fr.refl [] w).alloc _⟩
  · rw [decide_eq_false h0]
    go_enter Tryz.func279, Tryz.ntmps279
    go_wp2_with fail
    go_ret
    exact ⟨rfl, (Fr.refl [] w).alloc _⟩

theorem kept_two {w : World} (o1 o2 : Obj) : Fr [] w ((w.alloc o1).alloc o2) := ((Fr.refl [] w).alloc o1).alloc o2

set_option maxHeartbeats 2000000 in
theorem right_no (w : World) (r : Rec) (s : Spots) (h : headB r = false) : Calls Tryz.prog 254 #[.agg (recV r s)] w fun e w' => e = .returned (.bool false) ∧ Fr [] w w' := by
  obtain ⟨lsn, turn, kind, tx, prev, next, block, off, old, new⟩ := r
  unfold recV
  unfold headB at h
  dsimp only at h ⊢
  generalize old.length = no
  generalize new.length = nn
  by_cases h0 : 1 ≤ lsn
  · by_cases h1 : lsn ≤ 4611686018427387904
    · by_cases h2 : 1 ≤ turn
      · by_cases h3 : turn ≤ 2147483647
        · cases h4 : placeB tx
          · clear h
            go_enter Tryz.func254, Tryz.ntmps254
            go_wp2_with (first | (go_at_call 278; refine (isPlace_any _ _).mono ?_; rintro e w' ⟨rfl, rfl⟩))
            go_ret
            exact ⟨rfl, (Fr.refl [] w).alloc _⟩
          · cases h5 : placeB prev
            · clear h
              go_enter Tryz.func254, Tryz.ntmps254
              go_wp2_with (first | (go_at_call 278; refine (isPlace_any _ _).mono ?_; rintro e w' ⟨rfl, rfl⟩))
              go_ret
              exact ⟨rfl, (Fr.refl [] w).alloc _⟩
            · rw [decide_eq_true h0, decide_eq_true h1, decide_eq_true h2, decide_eq_true h3, h4, h5] at h; cases h
        · clear h
          go_enter Tryz.func254, Tryz.ntmps254
          go_wp2_with fail
          go_ret
          exact ⟨rfl, (Fr.refl [] w).alloc _⟩
      · clear h
        go_enter Tryz.func254, Tryz.ntmps254
        go_wp2_with fail
        go_ret
        exact ⟨rfl, (Fr.refl [] w).alloc _⟩
    · clear h
      go_enter Tryz.func254, Tryz.ntmps254
      go_wp2_with fail
      go_ret
      exact ⟨rfl, (Fr.refl [] w).alloc _⟩
  · clear h
    go_enter Tryz.func254, Tryz.ntmps254
    go_wp2_with fail
    go_ret
    exact ⟨rfl, (Fr.refl [] w).alloc _⟩

end Go.Proofs.YtopaeomjndblkaaGreat

namespace Go.Proofs.YtopaeomjndblkaaGreat
open Go.RowKit Go.Maps

theorem shb (x s : Nat) : ((x : Int) / 2 ^ s % 256).toNat = x / 2 ^ s % 256 := by
  rw [show ((2 : Int) ^ s) = ((2 ^ s : Nat) : Int) by simp, ← Int.natCast_ediv]
  omega
theorem sha (x s : Nat) : ((x : Int) / 2 ^ s).toNat = x / 2 ^ s := by
  rw [show ((2 : Int) ^ s) = ((2 ^ s : Nat) : Int) by simp, ← Int.natCast_ediv]
  exact Int.toNat_natCast _
theorem pow256 (j : Nat) : 2 ^ (8 * j) = 256 ^ j := by rw [Nat.pow_mul]

set_option maxHeartbeats 1000000 in
set_option maxRecDepth 100000 in
theorem put64_any (w0 w : World) (v : Value) (n : Nat) (l : List UInt8) (x : Nat) (X : Int) (hX : X = x) (hx : x < 18446744073709551616) (hl : l.length = n) (hn : n ≤ 100000) (hown : Own w0 w v n (arr l).toList) :
    Calls Tryz.prog 256 #[v, .int .u64 X] w fun e w' => ∃ v', e = .returned v' ∧ Own w0 w' v' (n + 8) (arr (l ++ beK 8 x)).toList := by
  have HX : Hid (X = x) := hX
  have hx0 : 0 ≤ X := by omega
  have hx1 : X < 18446744073709551616 := by omega
  clear hX
  go_enter Tryz.func256, Tryz.ntmps256
  go_wp2_with (go_at_call 280; refine (width64_any _).mono ?_; rintro e w' ⟨rfl, rfl⟩)
  go_loopw [0, 5] (fun v s wr => ∃ j : Nat, j ≤ 8 ∧ s = .int .i64 (56 - 8 * (j : Int)) ∧ Own w0 wr v (n + j) (arr (l ++ beK j (x / 256 ^ (8 - j)))).toList) (fun _ s _ => (intOf s + 8).toNat)
  case atStart => exact ⟨0, by omega, rfl, by simpa [beK] using hown⟩
  case round =>
    obtain ⟨j, hj, rfl, ow⟩ := hrel
    by_cases hlt : j < 8
    · obtain ⟨s, HS⟩ : ∃ s : Nat, Hid (s + 8 * j = 56) := ⟨56 - 8 * j, (by omega : 56 - 8 * j + 8 * j = 56)⟩
      have hsj : (56 - 8 * (j : Int)) = (s : Int) := by have := HS.out; omega
      rw [hsj]
      have hs0 : (0 : Int) ≤ (s : Int) := by omega
      have hs1 : (s : Int) < 64 := by have := HS.out; omega
      have hb0 : 0 ≤ X / 2 ^ s % 256 := by omega
      have hb1 : X / 2 ^ s % 256 < 256 := by omega
      clear hsj
      go_wp2_with (refine wp_app rfl _ _ rfl w0 _ (n + j) _ rfl (ow.kept ((Fr.refl [] wr).alloc _)) _ 1 _ [UInt8.ofNat (X / 2 ^ s % 256).toNat] rfl rfl (oneByte (X / 2 ^ s % 256) hb0 hb1 wr) (by omega) (fun h => absurd h (by omega)) ?_; intro v5 w5 o5)
      refine ⟨⟨j + 1, by omega, ?_, ?_⟩, ?_⟩
      · have := HS.out; go_num
      · have hbyte : UInt8.ofNat (X / 2 ^ s % 256).toNat = UInt8.ofNat (x / 256 ^ (8 - j - 1)) := by
          have hs := HS.out
          rw [HX.out, shb, show s = 8 * (8 - j - 1) by omega, pow256]
          apply UInt8.toNat_inj.1
          rw [u8_ofNat_toNat, u8_ofNat_toNat]
          omega
        rw [hbyte, arr_append, List.append_assoc, beK_step 8 j x hlt] at o5
        exact o5
      · have := HS.out; simp [intOf]; omega
    · obtain rfl : j = 8 := by omega
      go_wp2
      go_ret
      exact ⟨_, rfl, by simpa using ow⟩

set_option maxHeartbeats 1000000 in
set_option maxRecDepth 100000 in
theorem put32_any (w0 w : World) (v : Value) (n : Nat) (l : List UInt8) (x : Nat) (X : Int) (hX : X = x) (hx : x < 4294967296) (hl : l.length = n) (hn : n ≤ 100000) (hown : Own w0 w v n (arr l).toList) :
    Calls Tryz.prog 257 #[v, .int .u32 X] w fun e w' => ∃ v', e = .returned v' ∧ Own w0 w' v' (n + 4) (arr (l ++ beK 4 x)).toList := by
  have HX : Hid (X = x) := hX
  have hx0 : 0 ≤ X := by omega
  have hx1 : X < 4294967296 := by omega
  clear hX
  go_enter Tryz.func257, Tryz.ntmps257
  go_wp2_with (go_at_call 281; refine (width32_any _).mono ?_; rintro e w' ⟨rfl, rfl⟩)
  go_loopw [0, 5] (fun v s wr => ∃ j : Nat, j ≤ 4 ∧ s = .int .i64 (24 - 8 * (j : Int)) ∧ Own w0 wr v (n + j) (arr (l ++ beK j (x / 256 ^ (4 - j)))).toList) (fun _ s _ => (intOf s + 8).toNat)
  case atStart => exact ⟨0, by omega, rfl, by simpa [beK] using hown⟩
  case round =>
    obtain ⟨j, hj, rfl, ow⟩ := hrel
    by_cases hlt : j < 4
    · obtain ⟨s, HS⟩ : ∃ s : Nat, Hid (s + 8 * j = 24) := ⟨24 - 8 * j, (by omega : 24 - 8 * j + 8 * j = 24)⟩
      have hsj : (24 - 8 * (j : Int)) = (s : Int) := by have := HS.out; omega
      rw [hsj]
      have hs0 : (0 : Int) ≤ (s : Int) := by omega
      have hs1 : (s : Int) < 32 := by have := HS.out; omega
      have hb0 : 0 ≤ X / 2 ^ s % 256 := by omega
      have hb1 : X / 2 ^ s % 256 < 256 := by omega
      clear hsj
      go_wp2_with (refine wp_app rfl _ _ rfl w0 _ (n + j) _ rfl (ow.kept ((Fr.refl [] wr).alloc _)) _ 1 _ [UInt8.ofNat (X / 2 ^ s % 256).toNat] rfl rfl (oneByte (X / 2 ^ s % 256) hb0 hb1 wr) (by omega) (fun h => absurd h (by omega)) ?_; intro v5 w5 o5)
      refine ⟨⟨j + 1, by omega, ?_, ?_⟩, ?_⟩
      · have := HS.out; go_num
      · have hbyte : UInt8.ofNat (X / 2 ^ s % 256).toNat = UInt8.ofNat (x / 256 ^ (4 - j - 1)) := by
          have hs := HS.out
          rw [HX.out, shb, show s = 8 * (4 - j - 1) by omega, pow256]
          apply UInt8.toNat_inj.1
          rw [u8_ofNat_toNat, u8_ofNat_toNat]
          omega
        rw [hbyte, arr_append, List.append_assoc, beK_step 4 j x hlt] at o5
        exact o5
      · have := HS.out; simp [intOf]; omega
    · obtain rfl : j = 4 := by omega
      go_wp2
      go_ret
      exact ⟨_, rfl, by simpa using ow⟩

set_option maxHeartbeats 1000000 in
set_option maxRecDepth 100000 in
theorem put16_any (w0 w : World) (v : Value) (n : Nat) (l : List UInt8) (x : Nat) (X : Int) (hX : X = x) (hx : x < 65536) (hl : l.length = n) (hn : n ≤ 100000) (hown : Own w0 w v n (arr l).toList) :
    Calls Tryz.prog 258 #[v, .int .u16 X] w fun e w' => ∃ v', e = .returned v' ∧ Own w0 w' v' (n + 2) (arr (l ++ beK 2 x)).toList := by
  have HX : Hid (X = x) := hX
  have hx0 : 0 ≤ X := by omega
  have hx1 : X < 65536 := by omega
  clear hX
  go_enter Tryz.func258, Tryz.ntmps258
  go_wp2_with (go_at_call 282; refine (width16_any _).mono ?_; rintro e w' ⟨rfl, rfl⟩)
  go_loopw [0, 5] (fun v s wr => ∃ j : Nat, j ≤ 2 ∧ s = .int .i64 (8 - 8 * (j : Int)) ∧ Own w0 wr v (n + j) (arr (l ++ beK j (x / 256 ^ (2 - j)))).toList) (fun _ s _ => (intOf s + 8).toNat)
  case atStart => exact ⟨0, by omega, rfl, by simpa [beK] using hown⟩
  case round =>
    obtain ⟨j, hj, rfl, ow⟩ := hrel
    by_cases hlt : j < 2
    · obtain ⟨s, HS⟩ : ∃ s : Nat, Hid (s + 8 * j = 8) := ⟨8 - 8 * j, (by omega : 8 - 8 * j + 8 * j = 8)⟩
      have hsj : (8 - 8 * (j : Int)) = (s : Int) := by have := HS.out; omega
      rw [hsj]
      have hs0 : (0 : Int) ≤ (s : Int) := by omega
      have hs1 : (s : Int) < 16 := by have := HS.out; omega
      have hb0 : 0 ≤ X / 2 ^ s % 256 := by omega
      have hb1 : X / 2 ^ s % 256 < 256 := by omega
      clear hsj
      go_wp2_with (refine wp_app rfl _ _ rfl w0 _ (n + j) _ rfl (ow.kept ((Fr.refl [] wr).alloc _)) _ 1 _ [UInt8.ofNat (X / 2 ^ s % 256).toNat] rfl rfl (oneByte (X / 2 ^ s % 256) hb0 hb1 wr) (by omega) (fun h => absurd h (by omega)) ?_; intro v5 w5 o5)
      refine ⟨⟨j + 1, by omega, ?_, ?_⟩, ?_⟩
      · have := HS.out; go_num
      · have hbyte : UInt8.ofNat (X / 2 ^ s % 256).toNat = UInt8.ofNat (x / 256 ^ (2 - j - 1)) := by
          have hs := HS.out
          rw [HX.out, shb, show s = 8 * (2 - j - 1) by omega, pow256]
          apply UInt8.toNat_inj.1
          rw [u8_ofNat_toNat, u8_ofNat_toNat]
          omega
        rw [hbyte, arr_append, List.append_assoc, beK_step 2 j x hlt] at o5
        exact o5
      · have := HS.out; simp [intOf]; omega
    · obtain rfl : j = 2 := by omega
      go_wp2
      go_ret
      exact ⟨_, rfl, by simpa using ow⟩

set_option maxHeartbeats 1000000 in
set_option maxRecDepth 100000 in
theorem put8_any (w0 w : World) (v : Value) (n : Nat) (l : List UInt8) (x : Nat) (X : Int) (hX : X = x) (hx : x < 256) (hl : l.length = n) (hn : n ≤ 100000) (hown : Own w0 w v n (arr l).toList) :
    Calls Tryz.prog 265 #[v, .int .u8 X] w fun e w' => ∃ v', e = .returned v' ∧ Own w0 w' v' (n + 1) (arr (l ++ beK 1 x)).toList := by
  have HX : Hid (X = x) := hX
  have hx0 : 0 ≤ X := by omega
  have hx1 : X < 256 := by omega
  clear hX
  go_enter Tryz.func265, Tryz.ntmps265
  go_wp2_with (go_at_call 283; refine (width8_any _).mono ?_; rintro e w' ⟨rfl, rfl⟩)
  go_loopw [0, 5] (fun v s wr => ∃ j : Nat, j ≤ 1 ∧ s = .int .i64 (0 - 8 * (j : Int)) ∧ Own w0 wr v (n + j) (arr (l ++ beK j (x / 256 ^ (1 - j)))).toList) (fun _ s _ => (intOf s + 8).toNat)
  case atStart => exact ⟨0, by omega, rfl, by simpa [beK] using hown⟩
  case round =>
    obtain ⟨j, hj, rfl, ow⟩ := hrel
    by_cases hlt : j < 1
    · obtain ⟨s, HS⟩ : ∃ s : Nat, Hid (s + 8 * j = 0) := ⟨0 - 8 * j, (by omega : 0 - 8 * j + 8 * j = 0)⟩
      have hsj : (0 - 8 * (j : Int)) = (s : Int) := by have := HS.out; omega
      rw [hsj]
      have hs0 : (0 : Int) ≤ (s : Int) := by omega
      have hs1 : (s : Int) < 8 := by have := HS.out; omega
      have hb0 : 0 ≤ X / 2 ^ s := by rw [(by have h := HS.out; omega : s = 0)]; simpa using hx0
      have hb1 : X / 2 ^ s < 256 := by rw [(by have h := HS.out; omega : s = 0)]; simpa using hx1
      clear hsj
      go_wp2_with (refine wp_app rfl _ _ rfl w0 _ (n + j) _ rfl (ow.kept ((Fr.refl [] wr).alloc _)) _ 1 _ [UInt8.ofNat (X / 2 ^ s).toNat] rfl rfl (oneByte (X / 2 ^ s) hb0 hb1 wr) (by omega) (fun h => absurd h (by omega)) ?_; intro v5 w5 o5)
      refine ⟨⟨j + 1, by omega, ?_, ?_⟩, ?_⟩
      · have := HS.out; go_num
      · have hbyte : UInt8.ofNat (X / 2 ^ s).toNat = UInt8.ofNat (x / 256 ^ (1 - j - 1)) := by
          have hs := HS.out
          rw [HX.out, sha, show s = 8 * (1 - j - 1) by omega, pow256]
        rw [hbyte, arr_append, List.append_assoc, beK_step 1 j x hlt] at o5
        exact o5
      · have := HS.out; simp [intOf]; omega
    · obtain rfl : j = 1 := by omega
      go_wp2
      go_ret
      exact ⟨_, rfl, by simpa using ow⟩

end Go.Proofs.YtopaeomjndblkaaGreat

