/-
  Keys: put, PutInt, GetInt, PutBytes, GetBytes.
-/
import Derived.Test.YthaekjolbjmjfaaDoorLent
import Derived.Test.YthaekjolbjmjfaaDoorKMath
import Derived.OwnWalk
namespace Go.Proofs.YthaekjolbjmjfaaDoor
open Go.RowKit Go.Maps

set_option maxHeartbeats 400000 in
theorem put_any (w0 w : World) (v : Value) (n : Nat) (xs : List Value) (hown : Own w0 w v n xs) (b k c : Nat) (l : List UInt8) (hl : l.length = k) (hsrc : BytesAt w (some ⟨b, 0, none⟩) l) (hk : n + k ≤ 1000000) :
    Calls Tryd.prog 26 #[v, .slice (some ⟨b, 0, none⟩) k c] w fun e w' => ∃ v', e = .returned v' ∧ Own w0 w' v' (n + k) (xs ++ (arr l).toList) := by
  go_enter Tryd.func26, Tryd.ntmps26
  go_wp2_with (refine wp_appN rfl _ _ rfl w0 v n xs rfl hown _ k c l rfl hl hsrc hk (fun _ => ⟨_, rfl⟩) ?_; intro v' w' o')
  go_ret
  exact ⟨v', rfl, o'⟩

theorem one_src (w : World) (b : UInt8) (x : Int) (hx : x = b.toNat) : BytesAt (w.alloc (.cells #[.int .u8 x] 5)) (some ⟨w.heap.size, 0, none⟩) [b] := by
  subst hx
  exact Blk.bytes (l := [b]) (heap_alloc_new _ _)
theorem two_src (w : World) (a b : UInt8) (x y : Int) (hx : x = a.toNat) (hy : y = b.toNat) : BytesAt (w.alloc (.cells #[.int .u8 x, .int .u8 y] 5)) (some ⟨w.heap.size, 0, none⟩) [a, b] := by
  subst hx hy
  exact Blk.bytes (l := [a, b]) (heap_alloc_new _ _)
theorem Own.of_eq {w0 w : World} {v : Value} {n m : Nat} {l l' : List UInt8} (h : Own w0 w v n (arr l).toList) (e : l = l') (hm : n = m) : Own w0 w v m (arr l').toList := by
  subst e hm
  exact h
theorem Own.app {w0 w : World} {v : Value} {n m k : Nat} {l l' r : List UInt8} (h : Own w0 w v (n + k) ((arr l).toList ++ (arr l').toList)) (e : l ++ l' = r) (hm : n + k = m) : Own w0 w v m (arr r).toList := by
  subst e hm
  rw [arr_append] at h
  exact h

set_option maxHeartbeats 1000000 in
set_option maxRecDepth 100000 in
theorem putBytes_any (w : World) (ad : Option Addr) (n c : Nat) (l : List UInt8) (hl : l.length = n) (hb : BytesAt w ad l) (hn : n ≤ 40000) :
    Calls Tryd.prog 17 #[.slice ad n c] w fun e w' => ∃ v, e = .returned v ∧ Own w w' v (putB l).length (arr (putB l)).toList := by
  have HL : Hid (l.length = n) := hl
  clear hl
  go_enter Tryd.func17, Tryd.ntmps17
  go_wp2
  go_loopw [3, 8] (fun v i wr => ∃ j : Nat, j ≤ n ∧ i = .int .i64 j ∧ Own w wr v (esc (l.take j)).length (arr (esc (l.take j))).toList) (fun _ i _ => n - (intOf i).toNat)
  case atStart => exact ⟨0, by omega, rfl, World.ownsRow_nil _ _ _ _, Fr.refl _ _⟩
  case round =>
    obtain ⟨j, hj, rfl, ow⟩ := hrel
    have hb2 : Hid ((esc (l.take j)).length ≤ 80000) := by
      have := esc_length_le (l.take j)
      have h2 : (l.take j).length ≤ j := by simp; omega
      show (esc (l.take j)).length ≤ 80000
      omega
    by_cases hlt : j < n
    · have hlt' : (j : Int) < (n : Int) := by omega
      have hj0 : (0 : Int) ≤ (j : Int) := by omega
      have g1 : j < l.length := by rw [HL.out]; exact hlt
      have HS : Hid (esc (l.take (j + 1)) = esc (l.take j) ++ (if l[j] = 0 then [0, 255] else [l[j]])) := esc_take_step l j g1
      obtain ⟨b1, o1, e1, q1⟩ := (hb.kept ow.2 (by simp)) j (.int .u8 l[j].toNat) (by simp [arr, g1])
      subst e1
      by_cases hz : l[j] = 0
      · have HZ : Hid (l[j] = 0) := hz
        have hx : (l[j].toNat : Int) = 0 := by rw [hz]; rfl
        rw [hx] at q1
        clear hz hx
        go_wp2_with (go_at_call 26; refine (put_any w _ _ _ _ (ow.kept ((Fr.refl [] _).alloc _)) _ 2 _ [0, 255] rfl (two_src _ 0 255 0 255 rfl rfl) (by have := hb2.out; omega)).mono ?_; rintro e w5 ⟨v5, rfl, o5⟩)
        refine ⟨⟨j + 1, by omega, by go_num, o5.app ?_ ?_⟩, by simp [intOf]; omega⟩
        · rw [HS.out, if_pos HZ.out]
        · rw [HS.out, if_pos HZ.out]; simp
      · have HZ : Hid (¬ l[j] = 0) := hz
        have hx : ¬ (l[j].toNat : Int) = 0 := fun e => hz (UInt8.toNat_inj.1 (by simpa using e))
        have HX : Hid ((l[j].toNat : Int) = (l[j].toNat : Int)) := rfl
        clear hz
        generalize hxe : (l[j].toNat : Int) = x at q1 hx
        have HE : Hid (x = (l[j].toNat : Int)) := hxe.symm
        clear hxe HX
        go_wp2_with (go_at_call 26; refine (put_any w _ _ _ _ (ow.kept ((Fr.refl [] _).alloc _)) _ 1 _ [l[j]] rfl (one_src _ l[j] x HE.out) (by have := hb2.out; omega)).mono ?_; rintro e w5 ⟨v5, rfl, o5⟩)
        refine ⟨⟨j + 1, by omega, by go_num, o5.app ?_ ?_⟩, by simp [intOf]; omega⟩
        · rw [HS.out, if_neg HZ.out]
        · rw [HS.out, if_neg HZ.out]; simp
    · obtain rfl : j = n := by omega
      have HT : Hid (l.take j = l) := List.take_of_length_le (by rw [HL.out]; omega)
      go_wp2_with (go_at_call 26; refine (put_any w _ _ _ _ (ow.kept ((Fr.refl [] _).alloc _)) _ 2 _ [0, 0] rfl (two_src _ 0 0 0 0 rfl rfl) (by have := hb2.out; omega)).mono ?_; rintro e w5 ⟨v5, rfl, o5⟩)
      go_ret
      refine ⟨v5, rfl, o5.app ?_ ?_⟩
      · rw [HT.out]; rfl
      · rw [HT.out]; simp [putB]

theorem be_take_step (u i : Nat) (h : i < 8) : (be 8 u).take (i + 1) = (be 8 u).take i ++ [UInt8.ofNat (u / 256 ^ (7 - i))] := by
  have h8 := be_length 8 u
  rw [List.take_succ_eq_append_getElem (by omega)]
  congr 2
  have := be_at 8 u i h
  rw [List.getElem?_eq_getElem (by omega)] at this
  exact Option.some.inj this

theorem own_nil {w w' : World} (f : Fr [] w w') : Own w w' (.slice none 0 0) 0 (arr []).toList := ⟨World.ownsRow_nil _ _ _ _, f⟩

set_option maxHeartbeats 1000000 in
set_option maxRecDepth 100000 in
theorem putInt_any (w : World) (n : Int) (u : Nat) (hu : n + 9223372036854775808 = (u : Int)) (hu1 : u < 18446744073709551616) :
    Calls Tryd.prog 13 #[.int .i64 n] w fun e w' => ∃ v, e = .returned v ∧ Own w w' v 8 (arr (be 8 u)).toList := by
  have hU : IntKind.u64.wrap (IntKind.u64.wrap n + 9223372036854775808) = (u : Int) := by
    unfold IntKind.wrap
    simp [IntKind.signed, IntKind.bits]
    omega
  go_enter Tryd.func13, Tryd.ntmps13
  go_wp2_with (refine wp_make0 rfl _ _ rfl 8 rfl (by rfl) (by omega) w (Fr.refl _ _) ?_; intro w1 o1)
  clear hU hu
  generalize IntKind.u64.wrap n = wn
  obtain ⟨U, HU⟩ : ∃ U : Int, Hid ((u : Int) = U) := ⟨_, rfl⟩
  rw [HU.out]
  go_loopw [4, 10] (fun v i wr => ∃ j : Nat, j ≤ 8 ∧ i = .int .i64 j ∧ Own w wr v j (arr ((be 8 u).take j)).toList) (fun _ i _ => 8 - (intOf i).toNat)
  case atStart => exact ⟨0, by omega, rfl, o1⟩
  case round =>
    obtain ⟨j, hj, rfl, ow⟩ := hrel
    by_cases hlt : j < 8
    · have hlt' : (j : Int) < 8 := by omega
      have hj0 : (0 : Int) ≤ (j : Int) := by omega
      have HB : Hid (U / 2 ^ (8 * (7 - j)) % 256 = ((UInt8.ofNat (u / 256 ^ (7 - j))).toNat : Int)) := by
        show _ = _
        rw [← HU.out, UInt8.toNat_ofNat', show (256 : Nat) ^ (7 - j) = 2 ^ (8 * (7 - j)) by rw [Nat.pow_mul]]
        simp
      go_wp2_with (go_at_call 26; refine (put_any w _ _ _ _ (ow.kept ((Fr.refl [] _).alloc _)) _ 1 _ [UInt8.ofNat (u / 256 ^ (7 - j))] rfl (one_src _ _ _ HB.out) (by omega)).mono ?_; rintro e w5 ⟨v5, rfl, o5⟩)
      refine ⟨⟨j + 1, by omega, by go_num, o5.app ?_ rfl⟩, by simp [intOf]; omega⟩
      rw [be_take_step u j hlt]
    · obtain rfl : j = 8 := by omega
      go_wp2
      go_ret
      refine ⟨_, rfl, ow.of_eq ?_ rfl⟩
      exact List.take_of_length_le (by rw [be_length]; omega)

theorem or_low (A x : Nat) (hA : A < 72057594037927936) (hx : x < 256) : bits .or .u64 (IntKind.u64.wrap ((A : Int) * 256)) (IntKind.u64.wrap (x : Int)) = ((256 * A + x : Nat) : Int) := by
  have e1 : IntKind.u64.wrap ((A : Int) * 256) = ((A * 256 : Nat) : Int) := by
    unfold IntKind.wrap
    simp [IntKind.signed, IntKind.bits]
    omega
  have e2 : IntKind.u64.wrap (x : Int) = (x : Int) := by
    unfold IntKind.wrap
    simp [IntKind.signed, IntKind.bits]
    omega
  rw [e1, e2, u64_or_nat _ _ (by omega) (by omega), nat_join 8 _ _ (by omega) (by omega), Nat.mul_comm]

theorem sub_mid (u : Nat) (h : u < 18446744073709551616) : wrap64 (IntKind.u64.wrap ((u : Int) - 9223372036854775808)) = (u : Int) - 9223372036854775808 := by
  unfold wrap64 IntKind.wrap
  simp [IntKind.signed, IntKind.bits]
  omega

set_option maxHeartbeats 1000000 in
set_option maxRecDepth 100000 in
theorem getInt_any (w : World) (ad : Option Addr) (n c : Nat) (l : List UInt8) (hl : l.length = n) (hb : BytesAt w ad l) (hn : 8 ≤ n) (hm : n < 9223372036854775808) :
    Calls Tryd.prog 10 #[.slice ad n c] w fun e w' => e = .returned (.tuple #[.int .i64 ((ofBe (l.take 8) : Int) - 9223372036854775808), .int .i64 8, .bool true]) ∧ w' = w := by
  have HL : Hid (l.length = n) := hl
  clear hl
  go_enter Tryd.func10, Tryd.ntmps10
  go_wp2
  go_loopw [5, 10] (fun v i wr => ∃ j : Nat, j ≤ 8 ∧ i = .int .i64 j ∧ v = .int .u64 (ofBe (l.take j)) ∧ wr = w) (fun _ i _ => 8 - (intOf i).toNat)
  case atStart => exact ⟨0, by omega, rfl, rfl, rfl⟩
  case round =>
    obtain ⟨j, hj, rfl, rfl, rfl⟩ := hrel
    have hA : Hid (ofBe (l.take j) < 256 ^ j) := by
      have h1 := ofBe_lt (l.take j)
      rw [List.length_take, HL.out, Nat.min_eq_left (by omega)] at h1
      exact h1
    by_cases hlt : j < 8
    · have hlt' : (j : Int) < 8 := by omega
      have hj0 : (0 : Int) ≤ (j : Int) := by omega
      have g1 : j < l.length := by rw [HL.out]; omega
      obtain ⟨b1, o1, e1, q1⟩ := hb j (.int .u8 l[j].toNat) (by simp [arr, g1])
      subst e1
      have hjn : (j : Int) < (n : Int) := by omega
      obtain ⟨x, HX⟩ : ∃ x : Int, Hid ((l[j].toNat : Int) = x) := ⟨(l[j].toNat : Int), rfl⟩
      rw [HX.out] at q1
      obtain ⟨A, HA⟩ : ∃ A : Int, Hid ((ofBe (l.take j) : Int) = A) := ⟨_, rfl⟩
      rw [HA.out]
      go_wp2
      refine ⟨⟨j + 1, by omega, by go_num, ?_, trivial⟩, by simp [intOf]; omega⟩
      rw [← HA.out, ← HX.out, or_low _ _ (Nat.lt_of_lt_of_le hA.out (by
        have : 256 ^ j ≤ 256 ^ 7 := Nat.pow_le_pow_right (by omega) (by omega)
        omega)) (l[j].toNat_lt), List.take_succ_eq_append_getElem g1, ofBe_snoc]
    · obtain rfl : j = 8 := by omega
      obtain ⟨A, HA⟩ : ∃ A : Int, Hid ((ofBe (l.take 8) : Int) = A) := ⟨_, rfl⟩
      rw [HA.out]
      go_wp2
      go_ret3
      rw [← HA.out]
      exact ⟨by rw [sub_mid _ hA.out]; rfl, rfl⟩

set_option maxHeartbeats 400000 in
theorem getInt_few (w : World) (ad : Option Addr) (n c : Nat) (hn : n < 8) :
    Calls Tryd.prog 10 #[.slice ad n c] w fun e w' => e = .returned (.tuple #[.int .i64 0, .int .i64 0, .bool false]) ∧ w' = w := by
  have hn' : (n : Int) < 8 := by omega
  go_enter Tryd.func10, Tryd.ntmps10
  go_wp2
  go_ret3
  exact ⟨rfl, rfl⟩

set_option maxHeartbeats 1000000 in
set_option maxRecDepth 100000 in
theorem getBytes_any (w : World) (ad : Option Addr) (n c : Nat) (l : List UInt8) (hl : l.length = n) (hb : BytesAt w ad l) (hn : n ≤ 100000) :
    Calls Tryd.prog 15 #[.slice ad n c] w fun e w' => ∃ v, e = .returned (.tuple #[v, .int .i64 (lenGot (getB l)), .bool (getB l).isSome]) ∧ Own w w' v (rowGot (getB l)).length (arr (rowGot (getB l))).toList := by
  have HL : Hid (l.length = n) := hl
  clear hl
  go_enter Tryd.func15, Tryd.ntmps15
  go_wp2
  go_loopw [5, 6] (fun v i wr => ∃ (j : Nat) (row : List UInt8), j ≤ n ∧ i = .int .i64 j ∧ row.length ≤ j ∧ Upto l row j ∧ Own w wr v row.length (arr row).toList) (fun _ i _ => n - (intOf i).toNat)
  case atStart => exact ⟨0, [], by omega, rfl, by simp, Upto.start l, World.ownsRow_nil _ _ _ _, Fr.refl _ _⟩
  case round =>
    obtain ⟨j, row, hj, rfl, hrow, hup, ow⟩ := hrel
    have HR : Hid (row.length ≤ j) := hrow
    have HU : Hid (Upto l row j) := hup
    clear hrow hup
    by_cases hlt : j < n
    · have hlt' : (j : Int) < (n : Int) := by omega
      have hj0 : (0 : Int) ≤ (j : Int) := by omega
      have g1 : j < l.length := by rw [HL.out]; exact hlt
      obtain ⟨b1, o1, e1, q1⟩ := (hb.kept ow.2 (by simp)) j (.int .u8 l[j].toNat) (by simp [arr, g1])
      subst e1
      by_cases hz : l[j] = 0
      · have HZ : Hid (l[j] = 0) := hz
        have hx : (l[j].toNat : Int) = 0 := by rw [hz]; rfl
        rw [hx] at q1
        clear hz hx
        by_cases hl2 : j + 1 < n
        · have hl2' : (j : Int) + 1 < (n : Int) := by omega
          have d1 : decide ((j : Int) + 1 < (n : Int)) = true := by simp; omega
          have g2 : j + 1 < l.length := by rw [HL.out]; exact hl2
          obtain ⟨b2, o2, e2, q2⟩ := (hb.kept ow.2 (by simp)) (j + 1) (.int .u8 l[j + 1].toNat) (by simp [arr, g2])
          cases e2
          by_cases h0 : l[j + 1] = 0
          · have hx : (l[j + 1].toNat : Int) = 0 := by rw [h0]; rfl
            rw [hx] at q2
            have HG : Hid (getB l = some (row, j + 2)) := HU.out.ends g2 HZ.out h0
            clear h0 hx
            go_wp2
            go_ret3
            rw [HG.out]
            refine ⟨_, ?_, ow⟩
            congr 4
          · by_cases h255 : l[j + 1] = 255
            · have hx : (l[j + 1].toNat : Int) = 255 := by rw [h255]; rfl
              rw [hx] at q2
              have HG : Hid (Upto l (row ++ [0]) (j + 2)) := HU.out.zero g2 HZ.out h255
              clear h0 h255 hx
              go_wp2_with (go_at_call 26; refine (put_any w _ _ _ _ (ow.kept ((Fr.refl [] _).alloc _)) _ 1 _ [0] rfl (one_src _ 0 0 rfl) (by have := HR.out; omega)).mono ?_; rintro e w5 ⟨v5, rfl, o5⟩)
              refine ⟨⟨j + 2, row ++ [0], by omega, by go_num, by have := HR.out; simp; omega, HG.out, o5.app rfl (by simp)⟩, by simp [intOf]; omega⟩
            · have hx0 : ¬ (l[j + 1].toNat : Int) = 0 := fun e => h0 (UInt8.toNat_inj.1 (by simpa using e))
              have hx1 : ¬ (l[j + 1].toNat : Int) = 255 := fun e => h255 (UInt8.toNat_inj.1 (by simp; omega))
              have HG : Hid (getB l = none) := HU.out.bad g2 HZ.out h0 h255
              clear h0 h255
              generalize (l[j + 1].toNat : Int) = x at q2 hx0 hx1
              go_wp2
              go_ret3
              rw [HG.out]
              exact ⟨_, rfl, own_nil ow.2⟩
        · have hl2' : ¬ (j : Int) + 1 < (n : Int) := by omega
          have d1 : decide ((j : Int) + 1 < (n : Int)) = false := by simp; omega
          have HG : Hid (getB l = none) := HU.out.out (by rw [HL.out]; omega)
          go_wp2
          go_ret3
          rw [HG.out]
          exact ⟨_, rfl, own_nil ow.2⟩
      · have HZ : Hid (¬ l[j] = 0) := hz
        have hx : ¬ (l[j].toNat : Int) = 0 := fun e => hz (UInt8.toNat_inj.1 (by simpa using e))
        clear hz
        generalize hxe : (l[j].toNat : Int) = x at q1 hx
        have HE : Hid (x = (l[j].toNat : Int)) := hxe.symm
        clear hxe
        go_wp2_with (go_at_call 26; refine (put_any w _ _ _ _ (ow.kept ((Fr.refl [] _).alloc _)) _ 1 _ [l[j]] rfl (one_src _ l[j] x HE.out) (by have := HR.out; omega)).mono ?_; rintro e w5 ⟨v5, rfl, o5⟩)
        refine ⟨⟨j + 1, row ++ [l[j]], by omega, by go_num, by have := HR.out; simp; omega, HU.out.other g1 HZ.out, o5.app rfl (by simp)⟩, by simp [intOf]; omega⟩
    · obtain rfl : j = n := by omega
      have HG : Hid (getB l = none) := HU.out.out (by rw [HL.out]; omega)
      go_wp2
      go_ret3
      rw [HG.out]
      exact ⟨_, rfl, own_nil ow.2⟩

end Go.Proofs.YthaekjolbjmjfaaDoor
