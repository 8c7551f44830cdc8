/-
  Numbers as bytes: the key's PutInt and GetInt.
-/
import Derived.Test.YtopaeomjndblkaaGreatQSum
import Derived.Test.YtopaeomjndblkaaGreatKMath
import Derived.OwnWalk
namespace Go.Proofs.YtopaeomjndblkaaGreat
open Go.RowKit Go.Maps

set_option maxHeartbeats 400000 in
set_option maxRecDepth 100000 in
theorem kput_any (w0 w : World) (v : Value) (n : Nat) (xs : List Value) (hown : Own w0 w v n xs) (b k c : Nat) (l : List UInt8) (hl : l.length = k) (hsrc : BytesAt w (some ⟨b, 0, none⟩) l) (hk : n + k ≤ 1000000) :
    Calls Tryz.prog 243 #[v, .slice (some ⟨b, 0, none⟩) k c] w fun e w' => ∃ v', e = .returned v' ∧ Own w0 w' v' (n + k) (xs ++ (arr l).toList) := by
  go_enter Tryz.func243, Tryz.ntmps243
  go_wp2_with (refine wp_app rfl _ _ rfl w0 v n xs rfl hown _ k c l rfl hl hsrc hk (fun _ => ⟨_, rfl⟩) ?_; intro v' w' o')
  go_ret
  exact ⟨v', rfl, o'⟩

theorem one_src (w : World) (b : UInt8) (x : Int) (hx : x = b.toNat) : BytesAt (w.alloc (.cells #[.int .u8 x] 5)) (some ⟨w.heap.size, 0, none⟩) [b] := by
  subst hx
  exact Blk.bytes (l := [b]) (heap_alloc_new _ _)
theorem Own.of_eq {w0 w : World} {v : Value} {n m : Nat} {l l' : List UInt8} (h : Own w0 w v n (arr l).toList) (e : l = l') (hm : n = m) : Own w0 w v m (arr l').toList := by
  subst e hm
  exact h
theorem Own.app {w0 w : World} {v : Value} {n m k : Nat} {l l' r : List UInt8} (h : Own w0 w v (n + k) ((arr l).toList ++ (arr l').toList)) (e : l ++ l' = r) (hm : n + k = m) : Own w0 w v m (arr r).toList := by
  subst e hm
  rw [arr_append] at h
  exact h

theorem be_take_step (u i : Nat) (h : i < 8) : (be 8 u).take (i + 1) = (be 8 u).take i ++ [UInt8.ofNat (u / 256 ^ (7 - i))] := by
  have h8 := be_length 8 u
  rw [List.take_succ_eq_append_getElem (by omega)]
  congr 2
  have := be_at 8 u i h
  rw [List.getElem?_eq_getElem (by omega)] at this
  exact Option.some.inj this

set_option maxHeartbeats 1000000 in
set_option maxRecDepth 100000 in
theorem putInt_any (w : World) (n : Int) (u : Nat) (hu : n + 9223372036854775808 = (u : Int)) (hu1 : u < 18446744073709551616) :
    Calls Tryz.prog 208 #[.int .i64 n] w fun e w' => ∃ v, e = .returned v ∧ Own w w' v 8 (arr (be 8 u)).toList := by
  have hU : IntKind.u64.wrap (IntKind.u64.wrap n + 9223372036854775808) = (u : Int) := by
    unfold IntKind.wrap
    simp [IntKind.signed, IntKind.bits]
    omega
  go_enter Tryz.func208, Tryz.ntmps208
  go_wp2_with (refine wp_make0 rfl _ _ rfl 8 rfl (by rfl) (by omega) w (Fr.refl _ _) ?_; intro w1 o1)
  clear hU hu
  generalize IntKind.u64.wrap n = wn
  obtain ⟨U, HU⟩ : ∃ U : Int, Hid ((u : Int) = U) := ⟨_, rfl⟩
  rw [HU.out]
  go_loopw [4, 10] (fun v i wr => ∃ j : Nat, j ≤ 8 ∧ i = .int .i64 j ∧ Own w wr v j (arr ((be 8 u).take j)).toList) (fun _ i _ => 8 - (intOf i).toNat)
  case atStart => exact ⟨0, by omega, rfl, o1⟩
  case round =>
    obtain ⟨j, hj, rfl, ow⟩ := hrel
    by_cases hlt : j < 8
    · have hlt' : (j : Int) < 8 := by omega
      have hj0 : (0 : Int) ≤ (j : Int) := by omega
      have HB : Hid (U / 2 ^ (8 * (7 - j)) % 256 = ((UInt8.ofNat (u / 256 ^ (7 - j))).toNat : Int)) := by
        show _ = _
        rw [← HU.out, UInt8.toNat_ofNat', show (256 : Nat) ^ (7 - j) = 2 ^ (8 * (7 - j)) by rw [Nat.pow_mul]]
        simp
      go_wp2_with (go_at_call 243; refine (kput_any w _ _ _ _ (ow.kept ((Fr.refl [] _).alloc _)) _ 1 _ [UInt8.ofNat (u / 256 ^ (7 - j))] rfl (one_src _ _ _ HB.out) (by omega)).mono ?_; rintro e w5 ⟨v5, rfl, o5⟩)
      refine ⟨⟨j + 1, by omega, by go_num, o5.app ?_ rfl⟩, by simp [intOf]; omega⟩
      rw [be_take_step u j hlt]
    · obtain rfl : j = 8 := by omega
      go_wp2
      go_ret
      refine ⟨_, rfl, ow.of_eq ?_ rfl⟩
      exact List.take_of_length_le (by rw [be_length]; omega)

theorem kor_low (A x : Nat) (hA : A < 72057594037927936) (hx : x < 256) : bits .or .u64 (IntKind.u64.wrap ((A : Int) * 256)) (IntKind.u64.wrap (x : Int)) = ((256 * A + x : Nat) : Int) := by
  have e1 : IntKind.u64.wrap ((A : Int) * 256) = ((A * 256 : Nat) : Int) := by
    unfold IntKind.wrap
    simp [IntKind.signed, IntKind.bits]
    omega
  have e2 : IntKind.u64.wrap (x : Int) = (x : Int) := by
    unfold IntKind.wrap
    simp [IntKind.signed, IntKind.bits]
    omega
  rw [e1, e2, u64_or_nat _ _ (by omega) (by omega), nat_join 8 _ _ (by omega) (by omega), Nat.mul_comm]

theorem sub_mid (u : Nat) (h : u < 18446744073709551616) : wrap64 (IntKind.u64.wrap ((u : Int) - 9223372036854775808)) = (u : Int) - 9223372036854775808 := by
  unfold wrap64 IntKind.wrap
  simp [IntKind.signed, IntKind.bits]
  omega

set_option maxHeartbeats 1000000 in
set_option maxRecDepth 100000 in
theorem getInt_any (w : World) (ad : Option Addr) (n c : Nat) (l : List UInt8) (hl : l.length = n) (hb : BytesAt w ad l) (hn : 8 ≤ n) (hm : n < 9223372036854775808) :
    Calls Tryz.prog 205 #[.slice ad n c] w fun e w' => e = .returned (.tuple #[.int .i64 ((ofBe (l.take 8) : Int) - 9223372036854775808), .int .i64 8, .bool true]) ∧ w' = w := by
  have HL : Hid (l.length = n) := hl
  clear hl
  go_enter Tryz.func205, Tryz.ntmps205
  go_wp2
  go_loopw [5, 10] (fun v i wr => ∃ j : Nat, j ≤ 8 ∧ i = .int .i64 j ∧ v = .int .u64 (ofBe (l.take j)) ∧ wr = w) (fun _ i _ => 8 - (intOf i).toNat)
  case atStart => exact ⟨0, by omega, rfl, rfl, rfl⟩
  case round =>
    obtain ⟨j, hj, rfl, rfl, rfl⟩ := hrel
    have hA : Hid (ofBe (l.take j) < 256 ^ j) := by
      have h1 := ofBe_lt (l.take j)
      rw [List.length_take, HL.out, Nat.min_eq_left (by omega)] at h1
      exact h1
    by_cases hlt : j < 8
    · have hlt' : (j : Int) < 8 := by omega
      have hj0 : (0 : Int) ≤ (j : Int) := by omega
      have g1 : j < l.length := by rw [HL.out]; omega
      obtain ⟨b1, o1, e1, q1⟩ := hb j (.int .u8 l[j].toNat) (by simp [arr, g1])
      subst e1
      have hjn : (j : Int) < (n : Int) := by omega
      obtain ⟨x, HX⟩ : ∃ x : Int, Hid ((l[j].toNat : Int) = x) := ⟨(l[j].toNat : Int), rfl⟩
      rw [HX.out] at q1
      obtain ⟨A, HA⟩ : ∃ A : Int, Hid ((ofBe (l.take j) : Int) = A) := ⟨_, rfl⟩
      rw [HA.out]
      go_wp2
      refine ⟨⟨j + 1, by omega, by go_num, ?_, trivial⟩, by simp [intOf]; omega⟩
      rw [← HA.out, ← HX.out, kor_low _ _ (Nat.lt_of_lt_of_le hA.out (by
        have : 256 ^ j ≤ 256 ^ 7 := Nat.pow_le_pow_right (by omega) (by omega)
        omega)) (l[j].toNat_lt), List.take_succ_eq_append_getElem g1, ofBe_snoc]
    · obtain rfl : j = 8 := by omega
      obtain ⟨A, HA⟩ : ∃ A : Int, Hid ((ofBe (l.take 8) : Int) = A) := ⟨_, rfl⟩
      rw [HA.out]
      go_wp2
      go_ret3
      rw [← HA.out]
      exact ⟨by rw [sub_mid _ hA.out]; rfl, rfl⟩

end Go.Proofs.YtopaeomjndblkaaGreat
