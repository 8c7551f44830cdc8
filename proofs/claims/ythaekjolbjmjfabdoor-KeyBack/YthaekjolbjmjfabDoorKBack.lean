/-
  KeyBack: the walk.
-/
import Derived.Test.YthaekjolbjmjfabDoorKAwake
import Derived.Laws.AppendOwnNone
namespace Go.Proofs.YthaekjolbjmjfabDoor
open Go.RowKit Go.Maps

set_option maxHeartbeats 400000 in
theorem copy_any (w : World) (a0 : Addr) (n c : Nat) (l : List UInt8) (hl : l.length = n) (hn : n ≤ 100000) (hb : BytesAt w (some a0) l) :
    Calls Tryd.prog 7 #[.slice (some a0) n c] w fun e w' => ∃ v, e = .returned v ∧ Own w w' v n (arr l).toList := by
  go_enter Tryd.func7, Tryd.ntmps7
  go_wp2_with (refine wp_appN rfl _ _ rfl w _ 0 [] rfl ⟨World.ownsRow_nil _ _ _ _, Fr.refl _ _⟩ _ n c l rfl hl hb (by omega) (fun _ => ⟨_, rfl⟩) ?_; intro v5 w5 o5)
  go_ret
  rw [Nat.zero_add, List.nil_append] at o5
  exact ⟨v5, rfl, o5⟩

theorem Own.at {w0 w : World} {ad : Option Addr} {n cap : Nat} {xs : List Value} (h : Own w0 w (.slice ad n cap) n xs) (h0 : 0 < n) : ∃ g, ad = some ⟨g, 0, none⟩ ∧ n ≤ cap ∧ w0.heap.size ≤ g := by
  rcases h.1.2 with ⟨e, e2⟩ | ⟨g, c, cur, e, hb, _, hnc, _⟩
  · omega
  · cases e
    exact ⟨g, rfl, hnc, hb⟩
theorem BytesAt.take {w : World} {ad : Option Addr} {l : List UInt8} (h : BytesAt w ad l) (n : Nat) : BytesAt w ad (l.take n) := by
  intro j v hv
  simp only [arr, List.map_take, List.getElem?_take] at hv
  split at hv
  · exact h j v (by simpa [arr] using hv)
  · cases hv
theorem ofBe_xm (x : Int) (u : Nat) (m : List UInt8) (hx : x + 9223372036854775808 = (u : Int)) (hu : u < 18446744073709551616) : ((ofBe ((be 8 u ++ m).take 8) : Nat) : Int) - 9223372036854775808 = x := by
  rw [List.take_append_of_le_length (by rw [be_length]; omega), List.take_of_length_le (by rw [be_length]; omega), ofBe_be, Nat.mod_eq_of_lt (by omega)]
  omega

theorem getBytes_some (w : World) (ad : Option Addr) (n c k m : Nat) (l row : List UInt8) (hl : l.length = n) (hb : BytesAt w ad l) (hn : n ≤ 100000) (hG : getB l = some (row, m)) (hk : row.length = k) :
    Calls Tryd.prog 6 #[.slice ad n c] w fun e w' => ∃ ad' cap, e = .returned (.tuple #[.slice ad' k cap, .int .i64 (m : Int), .bool true]) ∧ Own w w' (.slice ad' k cap) k (arr row).toList := by
  have h := getBytes_out w ad n c k l hl hb hn (by rw [hG]; exact hk)
  rw [hG] at h
  exact h
theorem getBytes_none (w : World) (ad : Option Addr) (n c : Nat) (l : List UInt8) (hl : l.length = n) (hb : BytesAt w ad l) (hn : n ≤ 100000) (hG : getB l = none) :
    Calls Tryd.prog 6 #[.slice ad n c] w fun e w' => ∃ ad' cap, e = .returned (.tuple #[.slice ad' 0 cap, .int .i64 0, .bool false]) ∧ Own w w' (.slice ad' 0 cap) 0 (arr []).toList := by
  have h := getBytes_out w ad n c 0 l hl hb hn (by rw [hG]; rfl)
  rw [hG] at h
  exact h

set_option maxHeartbeats 4000000 in
set_option maxRecDepth 100000 in
theorem keyBack_long (w : World) (L : LaidW w) (a1 a2 : Option Addr) (n1 n2 c1 c2 : Nat) (z1 : n1 < 140737488355328) (z2 : n2 < 140737488355328) (hn : 20000 < n1 + n2) (x : Int) :
    Calls Tryd.prog 3 #[.slice a1 n1 c1, .slice a2 n2 c2, .int .i64 x] w fun e w' => e = .returned (.bool true) ∧ Fr [] w w' := by
  have q1 : (20000 : Int) < (n1 : Int) + (n2 : Int) := by omega
  go_enter Tryd.func3, Tryd.ntmps3
  go_wp2_with fail
  refine (awake_any _ L).mono ?_
  rintro e w0 ⟨rfl, f0⟩
  go_wp2_with fail
  go_ret
  exact ⟨rfl, f0⟩

set_option maxHeartbeats 4000000 in
set_option maxRecDepth 100000 in
theorem keyBack_law (w : World) (L : LaidW w) (a1 : Option Addr) (a2 : Addr) (n1 n2 c1 c2 : Nat) (l1 l2 : List UInt8) (h1 : l1.length = n1) (h2 : l2.length = n2) (b1 : BytesAt w a1 l1) (b2 : BytesAt w (some a2) l2) (hc : n2 ≤ c2) (hn : n1 + n2 ≤ 20000) (x : Int) (u : Nat) (hx : x + 9223372036854775808 = (u : Int)) (hu : u < 18446744073709551616) :
    Calls Tryd.prog 3 #[.slice a1 n1 c1, .slice (some a2) n2 c2, .int .i64 x] w fun e w' => e = .returned (.bool true) ∧ Fr [] w w' := by
  have q1 : (n1 : Int) + ((n2 : Int)) ≤ 20000 := by omega
  have HL1 := Lib.hid h1
  have HL2 := Lib.hid h2
  have HX := Lib.hid hx
  have hk1 : (putB l1).length ≤ 40100 := by
    have := esc_length_le l1
    simp [putB]
    omega
  have hk0 : 0 < (putB l1).length := by simp [putB]
  obtain ⟨K1, HK1⟩ : ∃ K, Hid ((putB l1).length = K) := ⟨(putB l1).length, rfl⟩
  rw [HK1.out] at hk1 hk0
  have hk0' : (0 : Int) < (K1 : Int) := by omega
  have HG1 : Hid (getB (putB l1 ++ l2) = some (l1, K1)) := by
    show getB (putB l1 ++ l2) = some (l1, K1)
    rw [getB_putB, HK1.out]
  clear h1 h2 hx
  go_enter Tryd.func3, Tryd.ntmps3
  go_wp2_with fail
  refine (awake_any _ L).mono ?_
  rintro e w0 ⟨rfl, f0⟩
  go_wp2_with fail
  refine (putBytes_out _ a1 n1 c1 K1 l1 HL1.out (b1.kept f0 (by simp)) (by omega) HK1.out).mono ?_
  rintro e w1 ⟨ad1, cap1, rfl, o1⟩
  obtain ⟨g1, rfl, hcap1, hg1⟩ := o1.at (by omega)
  have f1 := f0.trans o1.2
  go_wp2_with fail
  refine (copy_any _ _ K1 cap1 (putB l1) HK1.out (by omega) o1.bytes).mono ?_
  rintro e w2 ⟨v2, rfl, o2⟩
  go_wp2_with (refine wp_appN rfl _ _ rfl w1 _ K1 _ rfl o2 (some a2) n2 c2 l2 rfl HL2.out (b2.kept (f1.trans o2.2) (by simp)) (by omega) (fun _ => ⟨_, rfl⟩) ?_; intro v3 w3 o3; obtain ⟨ad3, cap3, rfl⟩ := o3.out)
  have o3 := o3.app rfl rfl
  have f3 := f1.trans o3.2
  refine (getBytes_some _ ad3 (K1 + n2) cap3 n1 K1 (putB l1 ++ l2) l1 (by rw [List.length_append, HK1.out, HL2.out]) o3.bytes (by omega) HG1.out HL1.out).mono ?_
  rintro e w4 ⟨ad4, cap4, rfl, o4⟩
  have f4 := f3.trans o4.2
  go_wp2_with fail
  refine (aw_same _ _ _ n1 _ _ _ HL1.out o4.bytes (b1.kept f4 (by simp)) (by omega)).mono ?_
  rintro e w5 ⟨rfl, f5⟩
  replace f5 := f4.trans f5
  clear o1 o2 o3 o4 f0 f1 f3 f4 HG1
  go_wp2_with fail
  refine (putInt_out _ x u HX.out hu).mono ?_
  rintro e w6 ⟨ad6, cap6, rfl, o6⟩
  obtain ⟨g6, rfl, hcap6, hg6⟩ := o6.at (by omega)
  have f6 := f5.trans o6.2
  go_wp2_with fail
  refine (copy_any _ _ 8 cap6 (be 8 u) (be_length _ _) (by omega) o6.bytes).mono ?_
  rintro e w7 ⟨v7, rfl, o7⟩
  go_wp2_with (refine wp_appN rfl _ _ rfl w6 _ 8 _ rfl o7 (some a2) n2 c2 l2 rfl HL2.out (b2.kept (f6.trans o7.2) (by simp)) (by omega) (fun _ => ⟨_, rfl⟩) ?_; intro v8 w8 o8; obtain ⟨ad8, cap8, rfl⟩ := o8.out)
  have o8 := o8.app rfl rfl
  have f8 := f6.trans o8.2
  refine (getInt_any _ ad8 (8 + n2) cap8 (be 8 u ++ l2) (by rw [List.length_append, be_length, HL2.out]) o8.bytes (by omega) (by omega)).mono ?_
  rw [ofBe_xm x u l2 HX.out hu]
  rintro e w9 ⟨rfl, hw9⟩
  have f9 : Fr [] w w9 := by rw [hw9]; exact f8
  clear hw9 o6 o7 o8 f6 f8 f5
  cases hG : getB l2 with
  | none =>
    have HG := Lib.hid hG
    clear hG
    go_wp2_with fail
    refine (getBytes_none _ (some a2) n2 c2 l2 HL2.out (b2.kept f9 (by simp)) (by omega) HG.out).mono ?_
    rintro e wa ⟨ada, capa, rfl, oa⟩
    have fa := f9.trans oa.2
    go_wp2_with fail
    go_ret
    exact ⟨by simp, fa⟩
  | some pr =>
    obtain ⟨row, m⟩ := pr
    obtain ⟨hm1, hm2⟩ := getB_back l2 row m hG
    have hrl := getB_row_le hG
    rw [HL2.out] at hm1 hrl
    have HG := Lib.hid hG
    have HM2 := Lib.hid hm2
    clear hG hm2
    have hm3 : (putB row).length = m := by
      rw [HM2.out, List.length_take, HL2.out]
      omega
    have HM3 := Lib.hid hm3
    have hmp : 0 < m := by
      rw [← hm3]
      simp [putB]
    clear hm3
    obtain ⟨J, HJ⟩ : ∃ J, Hid (row.length = J) := ⟨row.length, rfl⟩
    rw [HJ.out] at hrl
    have hm1' : (m : Int) ≤ (n2 : Int) := by omega
    have hm2' : (m : Int) ≤ (c2 : Int) := by omega
    have hm0' : (0 : Int) ≤ (m : Int) := by omega
    have hcz : ¬ c2 = 0 := by omega
    go_wp2_with fail
    refine (getBytes_some _ (some a2) n2 c2 J m l2 row HL2.out (b2.kept f9 (by simp)) (by omega) HG.out HJ.out).mono ?_
    rintro e wa ⟨ada, capa, rfl, oa⟩
    have fa := (f9.trans oa.2).drew
    have oa2 := oa.kept ((Fr.refl [] wa).drew)
    clear oa
    go_wp2_with fail
    go_region_held3 (fun _ => True) (trivial)
      (first
        | (go_at_call 5; refine (putBytes_out _ ada J capa m row HJ.out oa2.bytes (by omega) HM3.out).mono ?_; rintro e wb ⟨adb, capb, rfl, ob⟩; have fb := fa.trans ob.2)
        | (go_at_call 8; refine (aw_same _ _ _ m _ _ (putB row) HM3.out ob.bytes (by rw [HM2.out]; exact (b2.kept fb (by simp)).take m) (by omega)).mono ?_; rintro e wc ⟨rfl, fc⟩))
    go_wp2_with fail
    go_ret
    exact ⟨by simp, fb.trans fc⟩

set_option maxHeartbeats 4000000 in
set_option maxRecDepth 100000 in
theorem keyBack_none (w : World) (L : LaidW w) (a1 : Option Addr) (n1 c1 : Nat) (l1  : List UInt8) (h1 : l1.length = n1) (b1 : BytesAt w a1 l1) (hn : n1 + 0 ≤ 20000) (x : Int) (u : Nat) (hx : x + 9223372036854775808 = (u : Int)) (hu : u < 18446744073709551616) :
    Calls Tryd.prog 3 #[.slice a1 n1 c1, .slice none 0 0, .int .i64 x] w fun e w' => e = .returned (.bool true) ∧ Fr [] w w' := by
  have q1 : (n1 : Int) + (0) ≤ 20000 := by omega
  have HL1 := Lib.hid h1
  obtain ⟨i, hi, hz, hs, hb⟩ := info5'
  have HX := Lib.hid hx
  have hk1 : (putB l1).length ≤ 40100 := by
    have := esc_length_le l1
    simp [putB]
    omega
  have hk0 : 0 < (putB l1).length := by simp [putB]
  obtain ⟨K1, HK1⟩ : ∃ K, Hid ((putB l1).length = K) := ⟨(putB l1).length, rfl⟩
  rw [HK1.out] at hk1 hk0
  have hk0' : (0 : Int) < (K1 : Int) := by omega
  have HG1 : Hid (getB (putB l1 ++ []) = some (l1, K1)) := by
    show getB (putB l1 ++ []) = some (l1, K1)
    rw [getB_putB, HK1.out]
  clear h1 hx
  go_enter Tryd.func3, Tryd.ntmps3
  go_wp2_with fail
  refine (awake_any _ L).mono ?_
  rintro e w0 ⟨rfl, f0⟩
  go_wp2_with fail
  refine (putBytes_out _ a1 n1 c1 K1 l1 HL1.out (b1.kept f0 (by simp)) (by omega) HK1.out).mono ?_
  rintro e w1 ⟨ad1, cap1, rfl, o1⟩
  obtain ⟨g1, rfl, hcap1, hg1⟩ := o1.at (by omega)
  have f1 := f0.trans o1.2
  go_wp2_with fail
  refine (copy_any _ _ K1 cap1 (putB l1) HK1.out (by omega) o1.bytes).mono ?_
  rintro e w2 ⟨v2, rfl, o2⟩
  obtain ⟨ad2, cap2, rfl⟩ := o2.out
  go_wp2_with (refine wpList_append_own_none rfl _ _ 22 rfl w1.heap.size 5 i 1 Tryd.underlying22 hi _ K1 _ rfl o2.1 rfl ?_)
  obtain ⟨w3, hw3⟩ : ∃ w3, w3 = w2 := ⟨w2, rfl⟩
  rw [← hw3] at o2 ⊢
  clear hw3
  have o3 : Own w1 w3 (.slice ad2 K1 cap2) K1 (arr (putB l1 ++ [])).toList := o2.of_eq (by simp) rfl
  have f3 := f1.trans o3.2
  refine (getBytes_some _ ad2 K1 cap2 n1 K1 (putB l1 ++ []) l1 (by rw [List.append_nil, HK1.out]) o3.bytes (by omega) HG1.out HL1.out).mono ?_
  rintro e w4 ⟨ad4, cap4, rfl, o4⟩
  have f4 := f3.trans o4.2
  go_wp2_with fail
  refine (aw_same _ _ _ n1 _ _ _ HL1.out o4.bytes (b1.kept f4 (by simp)) (by omega)).mono ?_
  rintro e w5 ⟨rfl, f5⟩
  replace f5 := f4.trans f5
  clear o1 o2 o3 o4 f0 f1 f3 f4 HG1
  go_wp2_with fail
  refine (putInt_out _ x u HX.out hu).mono ?_
  rintro e w6 ⟨ad6, cap6, rfl, o6⟩
  obtain ⟨g6, rfl, hcap6, hg6⟩ := o6.at (by omega)
  have f6 := f5.trans o6.2
  go_wp2_with fail
  refine (copy_any _ _ 8 cap6 (be 8 u) (be_length _ _) (by omega) o6.bytes).mono ?_
  rintro e w7 ⟨v7, rfl, o7⟩
  obtain ⟨ad7, cap7, rfl⟩ := o7.out
  go_wp2_with (refine wpList_append_own_none rfl _ _ 22 rfl w6.heap.size 5 i 1 Tryd.underlying22 hi _ 8 _ rfl o7.1 rfl ?_)
  obtain ⟨w8, hw8⟩ : ∃ w8, w8 = w7 := ⟨w7, rfl⟩
  rw [← hw8] at o7 ⊢
  clear hw8
  have o8 : Own w6 w8 (.slice ad7 8 cap7) 8 (arr (be 8 u ++ [])).toList := o7.of_eq (by simp) rfl
  have f8 := f6.trans o8.2
  refine (getInt_any _ ad7 8 cap7 (be 8 u ++ []) (by rw [List.append_nil, be_length]) o8.bytes (by omega) (by omega)).mono ?_
  rw [ofBe_xm x u [] HX.out hu]
  rintro e w9 ⟨rfl, hw9⟩
  have f9 : Fr [] w w9 := by rw [hw9]; exact f8
  clear hw9 o6 o7 o8 f6 f8 f5
  go_wp2_with fail
  refine (getBytes_none _ none 0 0 [] rfl (BytesAt.nil _ _) (by omega) rfl).mono ?_
  rintro e wa ⟨ada, capa, rfl, oa⟩
  have fa := f9.trans oa.2
  go_wp2_with fail
  go_ret
  exact ⟨by simp, fa⟩

end Go.Proofs.YthaekjolbjmjfabDoor
