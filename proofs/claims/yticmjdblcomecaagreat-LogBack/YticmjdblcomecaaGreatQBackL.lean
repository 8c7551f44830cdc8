/-
  LogBack: what is put is got; bytes cut off, or turned, are none; answers lie apart.
-/
import Derived.Test.YticmjdblcomecaaGreatXAp
import Derived.Test.YticmjdblcomecaaGreatQAwake
import Derived.Test.YticmjdblcomecaaGreatXMath
namespace Go.Proofs.YticmjdblcomecaaGreat
open Go.RowKit Go.Maps

/-- What Get answers. -/
def gotR (l : List UInt8) : Rec := match decR l with | some (r, _) => r | none => zeroR 0 0
def gotN (l : List UInt8) : Int := match decR l with | some (_, n) => (n : Int) | none => 0
def gotE (l : List UInt8) : Int := match decR l with | some _ => 0 | none => 4
theorem new_zero (w w' : World) : NewSpots w w' (zeroR 0 0) zeroS := new_none w w' _ rfl rfl
theorem got_to {w w' : World} {l : List UInt8} {e : Ending} (h : GetTo w l e w') :
    ∃ s, e = .returned (.tuple #[.agg (recV (gotR l) s), .int .i64 (gotN l), .int .i64 (gotE l)]) ∧ NewSpots w w' (gotR l) s ∧ Fr [] w w' := by
  unfold gotR gotN gotE
  rcases h with ⟨h1, h2, h3⟩ | ⟨r, n, s, h1, h2, h3, h4⟩
  · rw [h1]
    exact ⟨zeroS, h2, new_zero _ _, h3⟩
  · rw [h1]
    exact ⟨s, h2, h3, h4⟩
theorem rcells2 {w : World} {b : Nat} {r : Rec} {s : Spots} (h : RBox w b r s) {w' : World} (f : Fr [] w w') :
    w'.cell? ⟨b, 0, none⟩ = some (.int .i64 r.lsn) ∧ w'.cell? ⟨b, 1, none⟩ = some (.int .i64 r.turn) ∧ w'.cell? ⟨b, 2, none⟩ = some (.int .u8 (r.kind : Int)) ∧ w'.cell? ⟨b, 3, none⟩ = some (.int .i64 r.tx) ∧ w'.cell? ⟨b, 4, none⟩ = some (.int .i64 r.prev) ∧ w'.cell? ⟨b, 5, none⟩ = some (.int .i64 r.next) ∧ w'.cell? ⟨b, 6, none⟩ = some (.int .i64 r.block) ∧ w'.cell? ⟨b, 7, none⟩ = some (.int .i64 r.off) ∧ w'.cell? ⟨b, 8, none⟩ = some (.slice s.a1 r.old.length s.c1) ∧ w'.cell? ⟨b, 9, none⟩ = some (.slice s.a2 r.new.length s.c2) := by
  have k := h.kept f (by simp)
  exact ⟨k.c0, k.c1, k.c2, k.c3, k.c4, k.c5, k.c6, k.c7, k.c8, k.c9⟩
theorem ofI8 (a : Nat) (h : a < 256) : (BitVec.ofInt 8 (a : Int)).toNat = a := by
  rw [BitVec.ofInt_natCast, BitVec.toNat_ofNat]; exact Nat.mod_eq_of_lt (by omega)
theorem xorB (a b : Nat) (ha : a < 256) (hb : b < 256) : bits .xor .u8 (a : Int) (b : Int) = ((a ^^^ b : Nat) : Int) := by
  have hx : a ^^^ b < 2 ^ 8 := Nat.xor_lt_two_pow (by omega) (by omega)
  show IntKind.u8.wrap ((BitVec.ofInt 8 (a : Int) ^^^ BitVec.ofInt 8 (b : Int)).toNat : Int) = _
  rw [BitVec.toNat_xor, ofI8 a ha, ofI8 b hb]
  simp [IntKind.wrap, IntKind.signed, IntKind.bits]
  omega
theorem xor_ne (a b : Nat) (h : b ≠ 0) : a ^^^ b ≠ a := by
  intro e
  apply h
  have h2 : a ^^^ (a ^^^ b) = a ^^^ a := by rw [e]
  rw [← Nat.xor_assoc, Nat.xor_self, Nat.zero_xor] at h2
  exact h2
theorem apart_two {base : Nat} {w : World} {r : Rec} {s : Spots} (h : OwnR base w r s) : ∀ g, (Value.slice s.a1 r.old.length s.c1).ownBlock = some g → (Value.slice s.a2 r.new.length s.c2).ownBlock ≠ some g := by
  intro g e1 e2
  obtain ⟨ad, c, k1, -, -, m1, -⟩ := own_is h.o rfl
  obtain ⟨ad', c', k2, -, -, m2, -⟩ := own_is h.n rfl
  cases k1
  cases k2
  cases ha : s.a1 with
  | none => rw [ha] at e1; cases e1
  | some a =>
    cases hb : s.a2 with
    | none => rw [hb] at e2; cases e2
    | some b =>
      have n1 := h.ne a b ha hb
      have q1 := (m1 a ha).2.2
      have q2 := (m2 b hb).2.2
      rw [ha, q1] at e1
      rw [hb, q2] at e2
      apply n1
      have r1 : a.block = g := by simpa [Value.ownBlock] using e1
      have r2 : b.block = g := by simpa [Value.ownBlock] using e2
      rw [r1, r2]
theorem three_at (w : World) : BytesAt (w.alloc (.cells #[.int .u8 1, .int .u8 2, .int .u8 3] 5)) (some ⟨w.heap.size, 0, none⟩) [1, 2, 3] := by
  intro j v hv
  refine ⟨w.heap.size, 0, rfl, ?_⟩
  have e : (#[.int .u8 1, .int .u8 2, .int .u8 3] : Array Value) = arr [1, 2, 3] := by simp [arr]
  rw [Nat.zero_add, cell_of_row _ _ _ _ _ _ (heap_alloc_new w _), ← hv, e]
  simp

set_option maxHeartbeats 4000000 in
set_option maxRecDepth 100000 in
theorem back_law (W : World) (R : Rec) (S : Spots) (hS : SpotsAt W R S) (ho : R.old.length < 140737488355328) (hn : R.new.length < 140737488355328) (a1 : Int) (ha : (Lit.int .i64 a1).wf = true) (wi : Nat) (hwi : wi < 256) :
    Calls Tryz.prog 3 #[.agg (recV R S), .int .i64 a1, .int .u8 (wi : Int)] W fun e W' => e = .returned (.bool true) ∧ Fr [] W W' := by
  have HS := hidI hS
  have HA := hidI ha
  have hw1 : IntKind.i64.wrap ((R.old.length : Int) + (R.new.length : Int)) = (R.old.length : Int) + (R.new.length : Int) := by simp [IntKind.wrap, IntKind.signed, IntKind.bits]; omega
  have f1 := (Fr.refl [] W).alloc (.cells (recV R S) 27)
  have p1 : RBox (W.alloc (.cells (recV R S) 27)) W.heap.size R S := heap_alloc_new W _
  clear hS ha
  go_enter Tryz.func3, Tryz.ntmps3
  generalize hA : W.alloc (.cells (recV R S) 27) = w1 at f1 p1
  go_wp2_with fail
  refine (awake_any _).mono ?_
  rintro e w2 ⟨rfl, f2⟩
  have p2 := p1.kept f2 (by simp)
  have F2 := f1.trans f2
  clear hA p1
  have x8 := p2.c8
  have x9 := p2.c9
  by_cases hbig : 2000 < R.old.length + R.new.length
  · have hb' : (2000 : Int) < (R.old.length : Int) + (R.new.length : Int) := by omega
    go_wp2_with fail
    go_ret
    exact ⟨rfl, F2⟩
  have hb' : ¬ (2000 : Int) < (R.old.length : Int) + (R.new.length : Int) := by omega
  have h5o : R.old.length ≤ 2000 := by omega
  have h5n : R.new.length ≤ 2000 := by omega
  have P2 := hidI p2
  have z2 : Hid (W.heap.size ≤ w2.heap.size) := hidI F2.size
  clear p2
  go_wp2_with (refine wpList_load_row rfl 27 _ rfl W.heap.size rfl _ _ _ _ P2.out Tryz.underlying27 rfl (by rw [sizeR]; rfl) ?_)
  refine (copyRec_any w2 R S (HS.out.kept F2) (by omega) (by omega)).mono ?_
  rintro e w3 ⟨t, rfl, L3, f3⟩
  have P3 := hidI (P2.out.kept f3 (by simp))
  have z3 : Hid (w2.heap.size ≤ w3.heap.size) := hidI f3.size
  have F3 := F2.trans f3
  clear x8 x9
  go_upto_region 6 with (refine wp_storeR rfl _ _ rfl w3.heap.size (zeroR 0 0) R zeroS t rfl rfl (heap_alloc_new _ _) ?_; intro w4 q4 f4)
  have f4' : Fr [] w3 w4 := ((Fr.refl [] w3).alloc _).then f4 (fun i hi hm => by simp at hm; omega)
  have F4 := F3.trans f4'
  have z4 : Hid (w3.heap.size ≤ w4.heap.size) := hidI f4'.size
  have L3' := hidI L3
  have L4 := hidI (L3.kept f4' (fun g hg => nomatch hg))
  have P4 := hidI (P3.out.kept f4' (by simp))
  have Q4 := hidI q4
  obtain ⟨b7, HB7⟩ : ∃ b, Hid (w3.heap.size = b) := ⟨_, rfl⟩
  rw [HB7.out] at Q4 ⊢
  clear f4 f4' L3 q4
  go_wp2_with (refine wpList_load_row rfl 27 _ rfl b7 rfl _ _ _ _ Q4.out Tryz.underlying27 rfl (by rw [sizeR]; rfl) ?_)
  by_cases hr : rightB R = true
  case neg =>
    have hr' : rightB R = false := by simpa using hr
    refine (put_no w4 R t (by omega) hr').mono ?_
    rintro e w5 ⟨rfl, f5⟩
    have Q5 := hidI (Q4.out.kept f5 (by simp))
    go_wp2_with (refine wpList_load_row rfl 27 _ rfl b7 rfl _ _ _ _ Q5.out Tryz.underlying27 rfl (by rw [sizeR]; rfl) ?_)
    refine (put_no w5 R t (by omega) hr').mono ?_
    rintro e w6 ⟨rfl, f6⟩
    go_wp2_with fail
    go_ret
    exact ⟨rfl, (F4.trans f5).trans f6⟩
  case pos =>
    obtain ⟨n0, n1⟩ := body_bounds hr
    have hle := encL_length R
    obtain ⟨L, HLE⟩ : ∃ L, Hid ((encL R).length = L) := ⟨_, rfl⟩
    have HR := hidI hr
    refine (put_ok w4 R t L4.out.spots hr).mono ?_
    rintro e w5 ⟨v5, rfl, o5⟩
    rw [HLE.out] at o5 hle
    have hL1 : 35 ≤ L := by omega
    have hL2 : L ≤ 1067 := by omega
    clear hr hle n0 n1
    obtain ⟨g5, c5, rfl, bb, hg5, hc5⟩ := own_at o5 (by omega) HLE.out
    have f5 := o5.2
    have F5 := F4.trans f5
    have Q5 := hidI (Q4.out.kept f5 (by simp))
    have L5 := hidI (L4.out.kept f5 (fun g hg => nomatch hg))
    go_wp2_with (refine wpList_load_row rfl 27 _ rfl b7 rfl _ _ _ _ Q5.out Tryz.underlying27 rfl (by rw [sizeR]; rfl) ?_)
    refine (put_ok w5 R t L5.out.spots HR.out).mono ?_
    rintro e w6 ⟨v6, rfl, o6⟩
    rw [HLE.out] at o6
    obtain ⟨g6, c6, rfl, bc, hg6, hc6⟩ := own_at o6 (by omega) HLE.out
    have f6 := o6.2
    have F6 := F5.trans f6
    have bb6 := bb.kept f6 (by simp)
    have z5 : Hid (w4.heap.size ≤ w5.heap.size) := hidI f5.size
    have z6 : Hid (w5.heap.size ≤ w6.heap.size) := hidI f6.size
    have O5 := hidI o5.1
    have O6 := hidI o6.1
    have hL0 : (0 : Int) ≤ (L : Int) := by omega
    go_wp2_with fail
    refine (copyBytes_any w6 (some ⟨g5, 0, none⟩) L c5 (encL R) HLE.out bb6 (by omega) (fun e => nomatch e)).mono ?_
    rintro e w7 ⟨v7, rfl, o7⟩
    have F7 := F6.trans o7.2
    obtain ⟨g7, c7, rfl, -, hg7, hc7⟩ := own_at o7 (by omega) HLE.out
    have O7 := hidI (o7.kept ((Fr.refl [] w7).alloc (.cells #[.int .u8 1, .int .u8 2, .int .u8 3] 5)))
    have HL3 : Hid ((encL R ++ [1, 2, 3]).length = L + 3) := hidI (by rw [List.length_append, HLE.out]; rfl)
    go_wp2_with ((refine wp_app rfl _ _ rfl w6 _ L _ rfl O7.out _ 3 _ [1, 2, 3] rfl rfl (three_at w7) (by omega) (fun _ => ⟨_, rfl⟩) ?_; intro v8 w8 o8; rw [arr_append] at o8; obtain ⟨g8, c8, rfl, b8, hg8, hc8⟩ := own_at o8 (by omega) HL3.out))
    have F8 := F6.trans o8.2
    refine (get_any w8 (some ⟨g8, 0, none⟩) (L + 3) c8 (encL R ++ [1, 2, 3]) HL3.out hc8 (by omega) b8).mono ?_
    intro e w9 hg
    have hd := dec_enc R HR.out [1, 2, 3]
    rw [HLE.out] at hd
    rcases hg with ⟨hno, -, -⟩ | ⟨r9, m9, s9, hd9, rfl, ns9, f9⟩
    · rw [hd] at hno; cases hno
    rw [hd] at hd9
    cases hd9
    have F9 := F8.trans f9
    have zz8 : Hid (w8.heap.size ≤ w9.heap.size) := hidI f9.size
    have OR9 := hidI (newSpots_own ns9 (by omega) (by omega))
    have z9 : Hid (w6.heap.size ≤ w8.heap.size) := hidI o8.2.size
    go_upto_region 11 with (refine wp_storeR rfl _ _ rfl w9.heap.size (zeroR 0 0) R zeroS s9 rfl rfl (heap_alloc_new _ _) ?_; intro w10 q10 f10)
    have f10' : Fr [] w9 w10 := ((Fr.refl [] w9).alloc _).then f10 (fun i hi hm => by simp at hm; omega)
    have F10 := F9.trans f10'
    obtain ⟨b12, HB12⟩ : ∃ b, Hid (w9.heap.size = b) := ⟨_, rfl⟩
    rw [HB12.out] at q10 ⊢
    have Q10 := hidI q10
    have g610 := (o8.2.trans f9).trans f10'
    have P10 := hidI (P4.out.kept ((f5.trans f6).trans g610) (by simp))
    have ns10 := OR9.out.kept f10' (fun g hg => nomatch hg)
    have BB10 := hidI (bb6.kept g610 (by simp))
    have K5 := hidI (own_keptL O5.out (f6.trans g610) (fun g hg => nomatch hg))
    have K6 := hidI (own_keptL O6.out g610 (fun g hg => nomatch hg))
    have K4 := hidI (L4.out.kept ((f5.trans f6).trans g610) (fun g hg => nomatch hg))
    have K7 := hidI (Q5.out.kept (f6.trans g610) (by simp))
    have K9 := hidI ns10
    have FF10 := hidI F10
    have zz9 : Hid (w9.heap.size ≤ w10.heap.size) := hidI f10'.size
    clear f10 q10 g610 ns10 F10 f10' F2 F3 F4 F5 F6 F7 F8 F9 f1 f2 f3 f5 f6 f9 o5 o6 o7 o8 bb bc bb6 b8 ns9 hd L4 L5 Q4 Q5 P2 P3 P4 O7
    obtain ⟨x0, x1, x2, x3, x4, x5, x6, x7, x8, x9⟩ := rcells2 Q10.out (Fr.refl [] _)
    obtain ⟨y0, y1, y2, y3, y4, y5, y6, y7, y8, y9⟩ := rcells2 P10.out (Fr.refl [] _)
    go_wp2_with fail
    refine (sameRec_yes w10 R s9 S K9.out.spots (HS.out.kept FF10.out) (by omega) (by omega)).mono ?_
    rintro e w11 ⟨rfl, f11⟩
    clear x0 x1 x2 x3 x4 x5 x6 x7 x8 x9 y0 y1 y2 y3 y4 y5 y6 y7 y8 y9
    go_wp2_with fail
    refine (pick_any w11 a1 (L : Int) HA.out (by omega) (by omega)).mono ?_
    rintro e w11' ⟨rfl, hw11⟩
    rw [hw11]
    clear hw11
    obtain ⟨K, HK⟩ : ∃ K : Nat, Hid ((a1 % (L : Int)) = (K : Int)) := ⟨(a1 % (L : Int)).toNat, hidI (by rw [Int.toNat_of_nonneg (Int.emod_nonneg _ (by omega))])⟩
    have hKL : K < L := by
      have h1 := Int.emod_lt_of_pos a1 (show (0 : Int) < (L : Int) by omega)
      rw [HK.out] at h1
      omega
    rw [HK.out]
    have hK0 : (0 : Int) ≤ (K : Int) := by omega
    have hKc : (K : Int) ≤ (c5 : Int) := by omega
    have hKl' : (K : Int) < (L : Int) := by omega
    go_wp2_with fail
    have HTK : Hid (((encL R).take K).length = K) := hidI (by rw [List.length_take, HLE.out]; omega)
    have bk : BytesAt w11 (some ⟨g5, 0, none⟩) ((encL R).take K) := by simpa using (BB10.out.kept f11 (by simp)).sub 0 K
    refine (get_any w11 (some ⟨g5, 0, none⟩) K c5 ((encL R).take K) HTK.out (by omega) (by omega) bk).mono ?_
    intro e w12 hg
    rcases hg with ⟨-, rfl, f12⟩ | ⟨r9, m9, s9', hd9, -⟩
    case inr =>
      rw [cut_none R HR.out K (by rw [HLE.out]; exact hKL)] at hd9
      cases hd9
    go_upto_region 15 with (refine wp_storeR rfl _ _ rfl w12.heap.size (zeroR 0 0) (zeroR 0 0) zeroS zeroS rfl rfl (heap_alloc_new _ _) ?_; intro w13 q13 f13)
    have f13' : Fr [] w12 w13 := ((Fr.refl [] w12).alloc _).then f13 (fun i hi hm => by simp at hm; omega)
    have g13 := (f11.trans f12).trans f13'
    have BB13 := hidI (BB10.out.kept g13 (by simp))
    clear f13 q13 bk f11 f12 f13'
    go_wp2_with fail
    refine (copyBytes_any w13 (some ⟨g5, 0, none⟩) L c5 (encL R) HLE.out BB13.out (by omega) (fun e => nomatch e)).mono ?_
    rintro e w14 ⟨v14, rfl, o14⟩
    obtain ⟨g14, c14, rfl, rb14, hg14⟩ := own_row o14 HLE.out (by omega)
    have f14 := o14.2
    have g14' := g13.trans f14
    have xk := rb14.cell K (by rw [HLE.out]; exact hKL)
    have zk := rb14.frozen K
    obtain ⟨X, HX⟩ : ∃ X, Hid ((byteAt (encL R) K).toNat = X) := ⟨_, rfl⟩
    rw [HX.out] at xk
    have hX : X < 256 := by rw [← HX.out]; exact UInt8.toNat_lt _
    have hw0 : (0 : Int) ≤ (wi : Int) := by omega
    have hw2 : (wi : Int) < 256 := by omega
    have hX0 : (0 : Int) ≤ (X : Int) := by omega
    have hX2 : (X : Int) < 256 := by omega
    obtain ⟨Z, HZ⟩ : ∃ Z : UInt8, Hid ((bits .xor .u8 (X : Int) (wi : Int)) = ((Z.toNat : Nat) : Int) ∧ (wi ≠ 0 → byteAt (encL R) K ≠ Z)) := by
      have hx : X ^^^ wi < 2 ^ 8 := Nat.xor_lt_two_pow (by omega) (by omega)
      refine ⟨UInt8.ofNat (X ^^^ wi), hidI ⟨?_, ?_⟩⟩
      · rw [xorB X wi hX hwi, UInt8.toNat_ofNat', Nat.mod_eq_of_lt (by omega)]
      · intro h0 e
        have h2 := congrArg UInt8.toNat e
        rw [HX.out, UInt8.toNat_ofNat', Nat.mod_eq_of_lt (by omega)] at h2
        exact xor_ne X wi h0 h2.symm
    go_upto_region 17 with fail
    rw [HZ.out.1]
    have rb15 := rb14.set K Z (by rw [HLE.out]; exact hKL)
    have f15 : Fr [g14] w14 (w14.setCell ⟨g14, K, none⟩ (.int .u8 ((Z.toNat : Nat) : Int))) := fr_set w14 g14 K _
    generalize w14.setCell ⟨g14, K, none⟩ (.int .u8 ((Z.toNat : Nat) : Int)) = w15 at rb15 f15 ⊢
    have f135 : Fr [] w13 w15 := f14.then f15 (fun i hi hm => by simp at hm; omega)
    have g15 := g13.trans f135
    have HLX : Hid (((encL R).set K Z).length = L) := hidI (by rw [List.length_set, HLE.out])
    have B15 := rb15.bytes
    have hc15 : L ≤ c14 := by have h1 := rb15.cap; rw [HLX.out] at h1; exact h1
    obtain ⟨XL, HXL⟩ : ∃ XL, Hid ((encL R).set K Z = XL) := ⟨_, rfl⟩
    rw [HXL.out] at HLX B15
    have HT : Hid (wi ≠ 0 → gotE XL = 4) := hidI (fun h0 => by
      unfold gotE
      rw [← HXL.out, turn_none R HR.out K Z (by rw [HLE.out]; exact hKL) (HZ.out.2 h0)])
    clear xk zk rb14 rb15 f15 f14 f135 g13 g14' o14 BB13
    go_wp2_with fail
    refine (get_any w15 (some ⟨g14, 0, none⟩) L c14 XL HLX.out hc15 (by omega) B15).mono ?_
    intro e w16 hg
    obtain ⟨s16, rfl, -, f16⟩ := got_to hg
    clear hg
    go_upto_region 18 with (refine wp_storeR rfl _ _ rfl w16.heap.size (zeroR 0 0) (gotR XL) zeroS s16 rfl rfl (heap_alloc_new _ _) ?_; intro w17 q17 f17)
    have f17' : Fr [] w16 w17 := ((Fr.refl [] w16).alloc _).then f17 (fun i hi hm => by simp at hm; omega)
    have g17 := (g15.trans f16).trans f17'
    have F17 := FF10.out.trans g17
    have x8 := (K7.out.kept g17 (by simp)).c8
    have x9 := (K7.out.kept g17 (by simp)).c9
    have y8 := (Q10.out.kept g17 (by simp)).c8
    have y9 := (Q10.out.kept g17 (by simp)).c9
    have A1 := K4.out.kept g17 (fun g hg => nomatch hg)
    have A5 := own_keptL K5.out g17 (fun g hg => nomatch hg)
    have A6 := own_keptL K6.out g17 (fun g hg => nomatch hg)
    have A9 := K9.out.kept g17 (fun g hg => nomatch hg)
    have HZZ : Hid (W.heap.size ≤ w2.heap.size ∧ w2.heap.size ≤ w3.heap.size ∧ w3.heap.size ≤ w4.heap.size ∧ w4.heap.size ≤ w5.heap.size ∧ w5.heap.size ≤ w6.heap.size ∧ w6.heap.size ≤ w8.heap.size ∧ w8.heap.size ≤ w9.heap.size) := hidI ⟨z2.out, z3.out, z4.out, z5.out, z6.out, z9.out, zz8.out⟩
    have HX1 : Hid (∀ g, (Value.slice t.a1 R.old.length t.c1).ownBlock = some g → w2.heap.size ≤ g ∧ g < w3.heap.size) := hidI (L3'.out.o.lt)
    have HX2 : Hid (∀ g, (Value.slice t.a2 R.new.length t.c2).ownBlock = some g → w2.heap.size ≤ g ∧ g < w3.heap.size) := hidI (L3'.out.n.lt)
    have HX3 : Hid (∀ g, (Value.slice (some ⟨g5, 0, none⟩) L c5).ownBlock = some g → w4.heap.size ≤ g ∧ g < w5.heap.size) := hidI (O5.out.lt)
    have HX4 : Hid (∀ g, (Value.slice (some ⟨g6, 0, none⟩) L c6).ownBlock = some g → w5.heap.size ≤ g ∧ g < w6.heap.size) := hidI (O6.out.lt)
    have HX5 : Hid (∀ g, (Value.slice s9.a1 R.old.length s9.c1).ownBlock = some g → w8.heap.size ≤ g ∧ g < w9.heap.size) := hidI (OR9.out.o.lt)
    have HX6 : Hid (∀ g, (Value.slice s9.a2 R.new.length s9.c2).ownBlock = some g → w8.heap.size ≤ g ∧ g < w9.heap.size) := hidI (OR9.out.n.lt)
    have HN1 : Hid (∀ g, (Value.slice t.a1 R.old.length t.c1).ownBlock = some g → (Value.slice t.a2 R.new.length t.c2).ownBlock ≠ some g) := hidI (apart_two L3'.out)
    have HN2 : Hid (∀ g, (Value.slice s9.a1 R.old.length s9.c1).ownBlock = some g → (Value.slice s9.a2 R.new.length s9.c2).ownBlock ≠ some g) := hidI (apart_two OR9.out)
    have HAP := hidI (six_apart (w := w17) (B := w2.heap.size) (a1 := t.a1) (a2 := t.a2) (a3 := some ⟨g5, 0, none⟩) (a4 := some ⟨g6, 0, none⟩) (a5 := s9.a1) (a6 := s9.a2) (n1 := R.old.length) (n2 := R.new.length) (n3 := L) (n4 := L) (n5 := R.old.length) (n6 := R.new.length) (c1 := t.c1) (c2 := t.c2) (c3 := c5) (c4 := c6) (c5 := s9.c1) (c6 := s9.c2)
      (by omega) (by omega) (by omega) (by omega) (by omega) (by omega)
      ⟨_, by simp [arr], own_low A1.o (Nat.zero_le _)⟩ ⟨_, by simp [arr], own_low A1.n (Nat.zero_le _)⟩ ⟨_, by simp [arr, HLE.out], own_low A5 (Nat.zero_le _)⟩ ⟨_, by simp [arr, HLE.out], own_low A6 (Nat.zero_le _)⟩ ⟨_, by simp [arr], own_low A9.o (Nat.zero_le _)⟩ ⟨_, by simp [arr], own_low A9.n (Nat.zero_le _)⟩
      (fun g e => (HX1.out g e).1) (fun g e => (HX2.out g e).1) (fun g e => by have h1 := HX3.out g e; have h2 := HZZ.out; omega) (fun g e => by have h1 := HX4.out g e; have h2 := HZZ.out; omega) (fun g e => by have h1 := HX5.out g e; have h2 := HZZ.out; omega) (fun g e => by have h1 := HX6.out g e; have h2 := HZZ.out; omega)
      HN1.out (fun g e e' => by have h1 := HX1.out g e; have h3 := HX3.out g e'; have h2 := HZZ.out; omega) (fun g e e' => by have h1 := HX1.out g e; have h3 := HX4.out g e'; have h2 := HZZ.out; omega) (fun g e e' => by have h1 := HX1.out g e; have h3 := HX5.out g e'; have h2 := HZZ.out; omega) (fun g e e' => by have h1 := HX1.out g e; have h3 := HX6.out g e'; have h2 := HZZ.out; omega)
      (fun g e e' => by have h1 := HX2.out g e; have h3 := HX3.out g e'; have h2 := HZZ.out; omega) (fun g e e' => by have h1 := HX2.out g e; have h3 := HX4.out g e'; have h2 := HZZ.out; omega) (fun g e e' => by have h1 := HX2.out g e; have h3 := HX5.out g e'; have h2 := HZZ.out; omega) (fun g e e' => by have h1 := HX2.out g e; have h3 := HX6.out g e'; have h2 := HZZ.out; omega)
      (fun g e e' => by have h1 := HX3.out g e; have h3 := HX4.out g e'; have h2 := HZZ.out; omega) (fun g e e' => by have h1 := HX3.out g e; have h3 := HX5.out g e'; have h2 := HZZ.out; omega) (fun g e e' => by have h1 := HX3.out g e; have h3 := HX6.out g e'; have h2 := HZZ.out; omega)
      (fun g e e' => by have h1 := HX4.out g e; have h3 := HX5.out g e'; have h2 := HZZ.out; omega) (fun g e e' => by have h1 := HX4.out g e; have h3 := HX6.out g e'; have h2 := HZZ.out; omega)
      HN2.out)
    clear A1 A5 A6 A9 q17 f17 f17' g17 f16 g15 B15
    by_cases h0 : wi = 0
    · have e0 : ((wi : Int) == 0) = true := by rw [h0]; rfl
      clear h0
      go_wp2_with fail
      refine HAP.out.mono ?_
      rintro e w18 ⟨rfl, G, hG, f18⟩
      go_wp2_with fail
      go_ret
      exact ⟨rfl, (F17.alloc _).then f18 (fun i hi hm => by have h1 := hG i hm; have h2 := z2.out; omega)⟩
    · have e0 : ((wi : Int) == 0) = false := by rw [beq_eq_false_iff_ne]; omega
      have e4 := HT.out h0
      clear h0
      rw [e4]
      go_wp2_with fail
      refine HAP.out.mono ?_
      rintro e w18 ⟨rfl, G, hG, f18⟩
      go_wp2_with fail
      go_ret
      exact ⟨rfl, (F17.alloc _).then f18 (fun i hi hm => by have h1 := hG i hm; have h2 := z2.out; omega)⟩

end Go.Proofs.YticmjdblcomecaaGreat
