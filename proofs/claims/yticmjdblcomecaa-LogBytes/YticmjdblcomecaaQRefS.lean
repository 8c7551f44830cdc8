/-
  The document's own sum, and numbers put and got: parchmentref10's Sum, put.
-/
import Derived.Test.YticmjdblcomecaaQSum
import Derived.Test.YticmjdblcomecaaQPut
namespace Go.Proofs.Yticmjdblcomecaa
open Go.RowKit Go.Maps

set_option maxHeartbeats 1000000 in
set_option maxRecDepth 100000 in
theorem rsum_any (w : World) (ad : Option Addr) (n c : Nat) (l : List UInt8) (hl : l.length = n) (hb : BytesAt w ad l) (hn : n ≤ 1000000) :
    Calls Try.prog 42 #[.slice ad n c] w fun e w' => e = .returned (.int .u32 (crc l)) ∧ w' = w := by
  have HL := hidI hl
  clear hl
  go_enter Try.func42, Try.ntmps42
  go_wp2
  go_loop [3, 4] (fun v i => ∃ k : Nat, k ≤ n ∧ i = .int .i64 k ∧ v = .int .u32 (crcL 4294967295 (l.take k) : Nat)) (fun _ i => n - (intOf i).toNat)
  case atStart => exact ⟨0, by omega, rfl, by simp [crcL_nil]⟩
  case round =>
    obtain ⟨k, hk, rfl, rfl⟩ := hrel
    by_cases hkl : k < n
    · have hkl' : (k : Int) < n := by omega
      have hk0 : (0 : Int) ≤ k := by omega
      have gk : k < l.length := by rw [HL.out]; omega
      obtain ⟨b1, o1, e1, q1⟩ := hb k (.int .u8 l[k].toNat) (by simp [arr, gk])
      subst e1
      obtain ⟨x, HX⟩ : ∃ x : Int, Hid ((l[k].toNat : Int) = x) := ⟨(l[k].toNat : Int), rfl⟩
      rw [HX.out] at q1
      obtain ⟨C, HC, hC⟩ : ∃ C : Nat, Hid (crcL 4294967295 (l.take k) = C) ∧ C < 4294967296 := ⟨_, rfl, crcL_lt (by omega) _⟩
      rw [HC.out]
      go_wp2
      go_loop [3, 5] (fun v i => ∃ m : Nat, m ≤ 8 ∧ i = .int .i64 m ∧ v = .int .u32 (cbits m (C ^^^ l[k].toNat) : Nat)) (fun _ i => 8 - (intOf i).toNat)
      case atStart =>
        refine ⟨0, by omega, rfl, ?_⟩
        have hxl := l[k].toNat_lt
        rw [← HX.out, Int.emod_eq_of_lt (by omega) (by omega), xor32 _ _ hC (by omega)]
        rfl
      case round =>
        obtain ⟨m, hm, rfl, rfl⟩ := hrel
        obtain ⟨D, HD, hD⟩ : ∃ D : Nat, Hid (cbits m (C ^^^ l[k].toNat) = D) ∧ D < 4294967296 := ⟨_, hidI rfl, cbits_lt (xor8_lt hC _) _⟩
        rw [HD.out]
        by_cases hm8 : m < 8
        · have hm8' : (m : Int) < 8 := by omega
          have hs := show cbits (m + 1) (C ^^^ l[k].toNat) = cbit D by rw [← HD.out]; rfl
          have HSt := hidI hs
          clear hs
          rcases (by omega : D % 2 = 0 ∨ D % 2 = 1) with h | h
          · have q2 : ((D : Int) % 2 == 1) = false := by rw [beq_eq_false_iff_ne]; omega
            have HH := hidI h
            clear h
            go_wp2
            refine ⟨⟨m + 1, by omega, by go_num, ?_⟩, by simp [intOf]; omega⟩
            rw [HSt.out]
            unfold cbit
            rw [if_neg (by have := HH.out; omega)]
            rfl
          · have q2 : ((D : Int) % 2 == 1) = true := by rw [beq_iff_eq]; omega
            have HH := hidI h
            clear h
            go_wp2
            refine ⟨⟨m + 1, by omega, by go_num, ?_⟩, by simp [intOf]; omega⟩
            rw [HSt.out]
            unfold cbit
            rw [if_pos HH.out, show (D : Int) / 2 = ((D / 2 : Nat) : Int) by omega, show (3988292384 : Int) = ((3988292384 : Nat) : Int) from rfl, xor32 _ _ (by omega) (by omega)]
        · obtain rfl : m = 8 := by omega
          go_wp2
          refine ⟨⟨k + 1, by omega, by go_num, ?_⟩, by simp [intOf]; omega⟩
          rw [List.take_succ_eq_append_getElem gk, crcL_snoc, HC.out, ← HD.out]
          rfl
    · obtain rfl : k = n := by omega
      have HT : Hid (l.take k = l) := hidI (List.take_of_length_le (by rw [HL.out]; omega))
      go_wp2
      go_ret
      refine ⟨ret_int ?_, rfl⟩
      have hlast := crcL_lt (c := 4294967295) (by omega) l
      rw [HT.out, show (4294967295 : Int) = ((4294967295 : Nat) : Int) from rfl, xor32 _ _ hlast (by omega)]
      rfl

set_option maxHeartbeats 1000000 in
set_option maxRecDepth 100000 in
theorem rput_any (w0 w : World) (v : Value) (n K : Nat) (l : List UInt8) (x : Nat) (X : Int) (hX : X = x) (hx : x < 9223372036854775808) (hK : K ≤ 8) (hl : l.length = n) (hn : n ≤ 100000) (hown : Own w0 w v n (arr l).toList) :
    Calls Try.prog 41 #[v, .int .i64 X, .int .i64 (K : Int)] w fun e w' => ∃ v', e = .returned v' ∧ Own w0 w' v' (n + K) (arr (l ++ beK K x)).toList := by
  have HX : Hid (X = x) := hX
  have hx0 : 0 ≤ X := by omega
  have hx1 : X < 9223372036854775808 := by omega
  have hwk := IntKind.i64.wrap ((K : Int) - 1)
  have e1 : IntKind.i64.wrap ((K : Int) - 1) = (K : Int) - 1 := by simp [IntKind.wrap, IntKind.signed, IntKind.bits]; omega
  clear hX hwk
  go_enter Try.func41, Try.ntmps41
  go_wp2_with fail
  go_loopw [0, 7] (fun v s wr => ∃ j : Nat, j ≤ K ∧ s = .int .i64 ((K : Int) - 1 - (j : Int)) ∧ Own w0 wr v (n + j) (arr (l ++ beK j (x / 256 ^ (K - j)))).toList) (fun _ s _ => (intOf s + 1).toNat)
  case atStart => exact ⟨0, by omega, by go_num, by simpa [beK] using hown⟩
  case round =>
    obtain ⟨j, hj, rfl, ow⟩ := hrel
    by_cases hlt : j < K
    · obtain ⟨s, HS⟩ : ∃ s : Nat, Hid (s + j + 1 = K) := ⟨K - 1 - j, (by omega : K - 1 - j + j + 1 = K)⟩
      have hsj : ((K : Int) - 1 - (j : Int)) = (s : Int) := by have := HS.out; omega
      rw [hsj]
      have hs0 : (0 : Int) ≤ (s : Int) := by omega
      have hs1 : (s : Int) < 8 := by have := HS.out; omega
      have hb0 : 0 ≤ X / 2 ^ (8 * s) % 256 := by omega
      have hb1 : X / 2 ^ (8 * s) % 256 < 256 := by omega
      clear hsj
      go_wp2_with (refine wp_app rfl _ _ rfl w0 _ (n + j) _ rfl (ow.kept ((Fr.refl [] wr).alloc _)) _ 1 _ [UInt8.ofNat (X / 2 ^ (8 * s) % 256).toNat] rfl rfl (oneByte (X / 2 ^ (8 * s) % 256) hb0 hb1 wr) (by omega) (fun h => absurd h (by omega)) ?_; intro v5 w5 o5)
      refine ⟨⟨j + 1, by omega, ?_, ?_⟩, ?_⟩
      · have := HS.out; go_num
      · have hbyte : UInt8.ofNat (X / 2 ^ (8 * s) % 256).toNat = UInt8.ofNat (x / 256 ^ (K - j - 1)) := by
          have hs := HS.out
          rw [HX.out, shb, show s = K - j - 1 by omega, pow256]
          apply UInt8.toNat_inj.1
          rw [u8_ofNat_toNat, u8_ofNat_toNat]
          omega
        rw [hbyte, arr_append, List.append_assoc, beK_step K j x hlt] at o5
        exact o5
      · simp [intOf]
    · obtain rfl : j = K := by omega
      go_wp2
      go_ret
      exact ⟨_, rfl, by simpa using ow⟩

set_option maxHeartbeats 1000000 in
set_option maxRecDepth 100000 in
theorem rget_any (w : World) (ad : Option Addr) (n c A K : Nat) (l : List UInt8) (hl : l.length = n) (hb : BytesAt w ad l) (hK : K ≤ 8) (hAK : A + K ≤ n) (hn : n ≤ 1000000) :
    Calls Try.prog 48 #[.slice ad n c, .int .i64 (A : Int), .int .i64 (K : Int)] w fun e w' => e = .returned (.int .i64 (wrap64 (valL ((l.drop A).take K) : Nat))) ∧ w' = w := by
  have HL := hidI hl
  clear hl
  go_enter Try.func48, Try.ntmps48
  go_wp2
  go_loop [7, 8] (fun v i => ∃ j : Nat, j ≤ K ∧ i = .int .i64 j ∧ v = .int .u64 (valL ((l.drop A).take j) : Nat)) (fun _ i => K - (intOf i).toNat)
  case atStart => exact ⟨0, by omega, rfl, rfl⟩
  case round =>
    obtain ⟨j, hj, rfl, rfl⟩ := hrel
    have hA : Hid (valL ((l.drop A).take j) < 256 ^ j) := by
      have h1 := valL_lt ((l.drop A).take j)
      rw [List.length_take, List.length_drop, HL.out, Nat.min_eq_left (by omega)] at h1
      exact h1
    by_cases hlt : j < K
    · have hlt' : (j : Int) < K := by omega
      have g1 : A + j < l.length := by rw [HL.out]; omega
      obtain ⟨b1, o1, e1, q1⟩ := hb (A + j) (.int .u8 l[A + j].toNat) (by simp [arr, g1])
      subst e1
      obtain ⟨x, HX⟩ : ∃ x : Int, Hid ((l[A + j].toNat : Int) = x) := ⟨(l[A + j].toNat : Int), rfl⟩
      rw [HX.out] at q1
      obtain ⟨I, HI⟩ : ∃ I : Nat, Hid (A + j = I) := ⟨_, rfl⟩
      rw [HI.out] at q1
      have e2 : IntKind.i64.wrap ((A : Int) + (j : Int)) = (I : Int) := by
        have := HI.out
        simp [IntKind.wrap, IntKind.signed, IntKind.bits]
        omega
      have e3 : (0 : Int) ≤ I := by omega
      have e4 : (I : Int) < n := by have := HI.out; omega
      obtain ⟨B, HB⟩ : ∃ B : Int, Hid ((valL ((l.drop A).take j) : Int) = B) := ⟨_, rfl⟩
      rw [HB.out]
      go_wp2
      refine ⟨⟨j + 1, by omega, by go_num, ?_⟩, by simp [intOf]; omega⟩
      have hpw : 256 ^ j ≤ 256 ^ 7 := Nat.pow_le_pow_right (by omega) (by omega)
      have hA1 := hA.out
      have hx1 := l[A + j].toNat_lt
      have hd : j < (l.drop A).length := by rw [List.length_drop]; omega
      rw [List.take_succ_eq_append_getElem hd, valL_snoc, List.getElem_drop, ← HB.out, ← HX.out]
      simp [IntKind.wrap, IntKind.signed, IntKind.bits]
      omega
    · obtain rfl : j = K := by omega
      go_wp2
      go_ret
      exact ⟨rfl, rfl⟩

end Go.Proofs.Yticmjdblcomecaa
