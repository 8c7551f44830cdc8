/-
  Numbers put behind a row: the program's put.
-/
import Derived.Test.YtopaeomjndblkaaGreatQWid
namespace Go.Proofs.YtopaeomjndblkaaGreat
open Go.RowKit Go.Maps

/-- A row of bytes that is new since a world, with its place. -/
structure OwnB (w0 w : World) (g c : Nat) (l : List UInt8) : Prop where
  own : Own w0 w (.slice (some ⟨g, 0, none⟩) l.length c) l.length (arr l).toList

theorem shb (x s : Nat) : ((x : Int) / 2 ^ s % 256).toNat = x / 2 ^ s % 256 := by
  rw [show ((2 : Int) ^ s) = ((2 ^ s : Nat) : Int) by simp, ← Int.natCast_ediv]
  omega
theorem sha (x s : Nat) : ((x : Int) / 2 ^ s).toNat = x / 2 ^ s := by
  rw [show ((2 : Int) ^ s) = ((2 ^ s : Nat) : Int) by simp, ← Int.natCast_ediv]
  exact Int.toNat_natCast _
theorem pow256 (j : Nat) : 2 ^ (8 * j) = 256 ^ j := by rw [Nat.pow_mul]

set_option maxHeartbeats 1000000 in
set_option maxRecDepth 100000 in
theorem put64_any (w0 w : World) (v : Value) (n : Nat) (l : List UInt8) (x : Nat) (X : Int) (hX : X = x) (hx : x < 18446744073709551616) (hl : l.length = n) (hn : n ≤ 100000) (hown : Own w0 w v n (arr l).toList) :
    Calls Tryz.prog 256 #[v, .int .u64 X] w fun e w' => ∃ v', e = .returned v' ∧ Own w0 w' v' (n + 8) (arr (l ++ beK 8 x)).toList := by
  have HX : Hid (X = x) := hX
  have hx0 : 0 ≤ X := by omega
  have hx1 : X < 18446744073709551616 := by omega
  clear hX
  go_enter Tryz.func256, Tryz.ntmps256
  go_wp2_with (go_at_call 280; refine (width64_any _).mono ?_; rintro e w' ⟨rfl, rfl⟩)
  go_loopw [0, 5] (fun v s wr => ∃ j : Nat, j ≤ 8 ∧ s = .int .i64 (56 - 8 * (j : Int)) ∧ Own w0 wr v (n + j) (arr (l ++ beK j (x / 256 ^ (8 - j)))).toList) (fun _ s _ => (intOf s + 8).toNat)
  case atStart => exact ⟨0, by omega, rfl, by simpa [beK] using hown⟩
  case round =>
    obtain ⟨j, hj, rfl, ow⟩ := hrel
    by_cases hlt : j < 8
    · obtain ⟨s, HS⟩ : ∃ s : Nat, Hid (s + 8 * j = 56) := ⟨56 - 8 * j, (by omega : 56 - 8 * j + 8 * j = 56)⟩
      have hsj : (56 - 8 * (j : Int)) = (s : Int) := by have := HS.out; omega
      rw [hsj]
      have hs0 : (0 : Int) ≤ (s : Int) := by omega
      have hs1 : (s : Int) < 64 := by have := HS.out; omega
      have hb0 : 0 ≤ X / 2 ^ s % 256 := by omega
      have hb1 : X / 2 ^ s % 256 < 256 := by omega
      clear hsj
      go_wp2_with (refine wp_app rfl _ _ rfl w0 _ (n + j) _ rfl (ow.kept ((Fr.refl [] wr).alloc _)) _ 1 _ [UInt8.ofNat (X / 2 ^ s % 256).toNat] rfl rfl (oneByte (X / 2 ^ s % 256) hb0 hb1 wr) (by omega) (fun h => absurd h (by omega)) ?_; intro v5 w5 o5)
      refine ⟨⟨j + 1, by omega, ?_, ?_⟩, ?_⟩
      · have := HS.out; go_num
      · have hbyte : UInt8.ofNat (X / 2 ^ s % 256).toNat = UInt8.ofNat (x / 256 ^ (8 - j - 1)) := by
          have hs := HS.out
          rw [HX.out, shb, show s = 8 * (8 - j - 1) by omega, pow256]
          apply UInt8.toNat_inj.1
          rw [u8_ofNat_toNat, u8_ofNat_toNat]
          omega
        rw [hbyte, arr_append, List.append_assoc, beK_step 8 j x hlt] at o5
        exact o5
      · have := HS.out; simp [intOf]; omega
    · obtain rfl : j = 8 := by omega
      go_wp2
      go_ret
      exact ⟨_, rfl, by simpa using ow⟩

set_option maxHeartbeats 1000000 in
set_option maxRecDepth 100000 in
theorem put32_any (w0 w : World) (v : Value) (n : Nat) (l : List UInt8) (x : Nat) (X : Int) (hX : X = x) (hx : x < 4294967296) (hl : l.length = n) (hn : n ≤ 100000) (hown : Own w0 w v n (arr l).toList) :
    Calls Tryz.prog 257 #[v, .int .u32 X] w fun e w' => ∃ v', e = .returned v' ∧ Own w0 w' v' (n + 4) (arr (l ++ beK 4 x)).toList := by
  have HX : Hid (X = x) := hX
  have hx0 : 0 ≤ X := by omega
  have hx1 : X < 4294967296 := by omega
  clear hX
  go_enter Tryz.func257, Tryz.ntmps257
  go_wp2_with (go_at_call 281; refine (width32_any _).mono ?_; rintro e w' ⟨rfl, rfl⟩)
  go_loopw [0, 5] (fun v s wr => ∃ j : Nat, j ≤ 4 ∧ s = .int .i64 (24 - 8 * (j : Int)) ∧ Own w0 wr v (n + j) (arr (l ++ beK j (x / 256 ^ (4 - j)))).toList) (fun _ s _ => (intOf s + 8).toNat)
  case atStart => exact ⟨0, by omega, rfl, by simpa [beK] using hown⟩
  case round =>
    obtain ⟨j, hj, rfl, ow⟩ := hrel
    by_cases hlt : j < 4
    · obtain ⟨s, HS⟩ : ∃ s : Nat, Hid (s + 8 * j = 24) := ⟨24 - 8 * j, (by omega : 24 - 8 * j + 8 * j = 24)⟩
      have hsj : (24 - 8 * (j : Int)) = (s : Int) := by have := HS.out; omega
      rw [hsj]
      have hs0 : (0 : Int) ≤ (s : Int) := by omega
      have hs1 : (s : Int) < 32 := by have := HS.out; omega
      have hb0 : 0 ≤ X / 2 ^ s % 256 := by omega
      have hb1 : X / 2 ^ s % 256 < 256 := by omega
      clear hsj
      go_wp2_with (refine wp_app rfl _ _ rfl w0 _ (n + j) _ rfl (ow.kept ((Fr.refl [] wr).alloc _)) _ 1 _ [UInt8.ofNat (X / 2 ^ s % 256).toNat] rfl rfl (oneByte (X / 2 ^ s % 256) hb0 hb1 wr) (by omega) (fun h => absurd h (by omega)) ?_; intro v5 w5 o5)
      refine ⟨⟨j + 1, by omega, ?_, ?_⟩, ?_⟩
      · have := HS.out; go_num
      · have hbyte : UInt8.ofNat (X / 2 ^ s % 256).toNat = UInt8.ofNat (x / 256 ^ (4 - j - 1)) := by
          have hs := HS.out
          rw [HX.out, shb, show s = 8 * (4 - j - 1) by omega, pow256]
          apply UInt8.toNat_inj.1
          rw [u8_ofNat_toNat, u8_ofNat_toNat]
          omega
        rw [hbyte, arr_append, List.append_assoc, beK_step 4 j x hlt] at o5
        exact o5
      · have := HS.out; simp [intOf]; omega
    · obtain rfl : j = 4 := by omega
      go_wp2
      go_ret
      exact ⟨_, rfl, by simpa using ow⟩

set_option maxHeartbeats 1000000 in
set_option maxRecDepth 100000 in
theorem put16_any (w0 w : World) (v : Value) (n : Nat) (l : List UInt8) (x : Nat) (X : Int) (hX : X = x) (hx : x < 65536) (hl : l.length = n) (hn : n ≤ 100000) (hown : Own w0 w v n (arr l).toList) :
    Calls Tryz.prog 258 #[v, .int .u16 X] w fun e w' => ∃ v', e = .returned v' ∧ Own w0 w' v' (n + 2) (arr (l ++ beK 2 x)).toList := by
  have HX : Hid (X = x) := hX
  have hx0 : 0 ≤ X := by omega
  have hx1 : X < 65536 := by omega
  clear hX
  go_enter Tryz.func258, Tryz.ntmps258
  go_wp2_with (go_at_call 282; refine (width16_any _).mono ?_; rintro e w' ⟨rfl, rfl⟩)
  go_loopw [0, 5] (fun v s wr => ∃ j : Nat, j ≤ 2 ∧ s = .int .i64 (8 - 8 * (j : Int)) ∧ Own w0 wr v (n + j) (arr (l ++ beK j (x / 256 ^ (2 - j)))).toList) (fun _ s _ => (intOf s + 8).toNat)
  case atStart => exact ⟨0, by omega, rfl, by simpa [beK] using hown⟩
  case round =>
    obtain ⟨j, hj, rfl, ow⟩ := hrel
    by_cases hlt : j < 2
    · obtain ⟨s, HS⟩ : ∃ s : Nat, Hid (s + 8 * j = 8) := ⟨8 - 8 * j, (by omega : 8 - 8 * j + 8 * j = 8)⟩
      have hsj : (8 - 8 * (j : Int)) = (s : Int) := by have := HS.out; omega
      rw [hsj]
      have hs0 : (0 : Int) ≤ (s : Int) := by omega
      have hs1 : (s : Int) < 16 := by have := HS.out; omega
      have hb0 : 0 ≤ X / 2 ^ s % 256 := by omega
      have hb1 : X / 2 ^ s % 256 < 256 := by omega
      clear hsj
      go_wp2_with (refine wp_app rfl _ _ rfl w0 _ (n + j) _ rfl (ow.kept ((Fr.refl [] wr).alloc _)) _ 1 _ [UInt8.ofNat (X / 2 ^ s % 256).toNat] rfl rfl (oneByte (X / 2 ^ s % 256) hb0 hb1 wr) (by omega) (fun h => absurd h (by omega)) ?_; intro v5 w5 o5)
      refine ⟨⟨j + 1, by omega, ?_, ?_⟩, ?_⟩
      · have := HS.out; go_num
      · have hbyte : UInt8.ofNat (X / 2 ^ s % 256).toNat = UInt8.ofNat (x / 256 ^ (2 - j - 1)) := by
          have hs := HS.out
          rw [HX.out, shb, show s = 8 * (2 - j - 1) by omega, pow256]
          apply UInt8.toNat_inj.1
          rw [u8_ofNat_toNat, u8_ofNat_toNat]
          omega
        rw [hbyte, arr_append, List.append_assoc, beK_step 2 j x hlt] at o5
        exact o5
      · have := HS.out; simp [intOf]; omega
    · obtain rfl : j = 2 := by omega
      go_wp2
      go_ret
      exact ⟨_, rfl, by simpa using ow⟩

set_option maxHeartbeats 1000000 in
set_option maxRecDepth 100000 in
theorem put8_any (w0 w : World) (v : Value) (n : Nat) (l : List UInt8) (x : Nat) (X : Int) (hX : X = x) (hx : x < 256) (hl : l.length = n) (hn : n ≤ 100000) (hown : Own w0 w v n (arr l).toList) :
    Calls Tryz.prog 265 #[v, .int .u8 X] w fun e w' => ∃ v', e = .returned v' ∧ Own w0 w' v' (n + 1) (arr (l ++ beK 1 x)).toList := by
  have HX : Hid (X = x) := hX
  have hx0 : 0 ≤ X := by omega
  have hx1 : X < 256 := by omega
  clear hX
  go_enter Tryz.func265, Tryz.ntmps265
  go_wp2_with (go_at_call 283; refine (width8_any _).mono ?_; rintro e w' ⟨rfl, rfl⟩)
  go_loopw [0, 5] (fun v s wr => ∃ j : Nat, j ≤ 1 ∧ s = .int .i64 (0 - 8 * (j : Int)) ∧ Own w0 wr v (n + j) (arr (l ++ beK j (x / 256 ^ (1 - j)))).toList) (fun _ s _ => (intOf s + 8).toNat)
  case atStart => exact ⟨0, by omega, rfl, by simpa [beK] using hown⟩
  case round =>
    obtain ⟨j, hj, rfl, ow⟩ := hrel
    by_cases hlt : j < 1
    · obtain ⟨s, HS⟩ : ∃ s : Nat, Hid (s + 8 * j = 0) := ⟨0 - 8 * j, (by omega : 0 - 8 * j + 8 * j = 0)⟩
      have hsj : (0 - 8 * (j : Int)) = (s : Int) := by have := HS.out; omega
      rw [hsj]
      have hs0 : (0 : Int) ≤ (s : Int) := by omega
      have hs1 : (s : Int) < 8 := by have := HS.out; omega
      have hb0 : 0 ≤ X / 2 ^ s := by rw [(by have h := HS.out; omega : s = 0)]; simpa using hx0
      have hb1 : X / 2 ^ s < 256 := by rw [(by have h := HS.out; omega : s = 0)]; simpa using hx1
      clear hsj
      go_wp2_with (refine wp_app rfl _ _ rfl w0 _ (n + j) _ rfl (ow.kept ((Fr.refl [] wr).alloc _)) _ 1 _ [UInt8.ofNat (X / 2 ^ s).toNat] rfl rfl (oneByte (X / 2 ^ s) hb0 hb1 wr) (by omega) (fun h => absurd h (by omega)) ?_; intro v5 w5 o5)
      refine ⟨⟨j + 1, by omega, ?_, ?_⟩, ?_⟩
      · have := HS.out; go_num
      · have hbyte : UInt8.ofNat (X / 2 ^ s).toNat = UInt8.ofNat (x / 256 ^ (1 - j - 1)) := by
          have hs := HS.out
          rw [HX.out, sha, show s = 8 * (1 - j - 1) by omega, pow256]
        rw [hbyte, arr_append, List.append_assoc, beK_step 1 j x hlt] at o5
        exact o5
      · have := HS.out; simp [intOf]; omega
    · obtain rfl : j = 1 := by omega
      go_wp2
      go_ret
      exact ⟨_, rfl, by simpa using ow⟩

end Go.Proofs.YtopaeomjndblkaaGreat
