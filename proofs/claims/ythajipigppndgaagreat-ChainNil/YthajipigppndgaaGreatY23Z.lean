/-
  Rows of bytes that are written over: copy, clear; the program's copied, Get, New.
-/
import Derived.Test.YthajipigppndgaaGreatY22Z
import Derived.Deep.RegionLaw
namespace Go.Proofs.YthajipigppndgaaGreat.Pg
open Go.RowKit Go.Maps

def valL (l : List UInt8) : Nat := l.foldl (fun n b => n * 256 + b.toNat) 0
theorem valL_snoc (l : List UInt8) (b : UInt8) : valL (l ++ [b]) = valL l * 256 + b.toNat := by simp [valL]
theorem valL_lt (l : List UInt8) : valL l < 256 ^ l.length := by
  suffices h : ∀ r : List UInt8, valL r.reverse < 256 ^ r.length by simpa using h l.reverse
  intro r
  induction r with
  | nil => simp [valL]
  | cons b r ih =>
    rw [List.reverse_cons, valL_snoc, List.length_cons, Nat.pow_succ]
    have := b.toNat_lt
    omega

theorem BytesAt.sub {w : World} {g o : Nat} {l : List UInt8} (h : BytesAt w (some ⟨g, o, none⟩) l) (i m : Nat) : BytesAt w (some ⟨g, o + i, none⟩) ((l.drop i).take m) := by
  intro j v hv
  have hv2 : (arr l).toList[i + j]? = some v := by
    simp only [arr, List.getElem?_map, List.getElem?_take, List.getElem?_drop] at hv ⊢
    split at hv
    · exact hv
    · cases hv
  obtain ⟨b, off, e, hc⟩ := h (i + j) v hv2
  cases e
  exact ⟨g, o + i, rfl, by rw [Nat.add_assoc]; exact hc⟩

theorem ret_int {k : IntKind} {a b : Int} (h : a = b) : Ending.returned (.int k a) = .returned (.int k b) := by rw [h]
theorem i64_or_nat (a b : Nat) (ha : a < 4611686018427387904) (hb : b < 4611686018427387904) : bits .or .i64 (a : Int) (b : Int) = ((a ||| b : Nat) : Int) := by
  have hx : a ||| b < 2 ^ 62 := Nat.or_lt_two_pow (by omega) (by omega)
  show IntKind.i64.wrap ((BitVec.ofInt 64 (a : Int) ||| BitVec.ofInt 64 (b : Int)).toNat : Int) = _
  rw [BitVec.toNat_or, ofInt_u64 a (by omega), ofInt_u64 b (by omega)]
  unfold IntKind.wrap
  simp [IntKind.signed, IntKind.bits]
  omega
theorem or_low (A x : Nat) (hA : A < 16777216) (hx : x < 256) : bits .or .i64 (wrap64 ((A : Int) * 256)) (wrap64 (x : Int)) = ((A * 256 + x : Nat) : Int) := by
  have e1 : wrap64 ((A : Int) * 256) = ((A * 256 : Nat) : Int) := by unfold wrap64; omega
  have e2 : wrap64 (x : Int) = (x : Int) := by unfold wrap64; omega
  rw [e1, e2, i64_or_nat _ _ (by omega) (by omega), nat_join 8 _ _ (by omega) (by omega)]

set_option maxHeartbeats 400000 in
set_option maxRecDepth 100000 in
theorem number_any (w : World) (ad : Option Addr) (n c : Nat) (l : List UInt8) (hl : l.length = n) (hb : BytesAt w ad l) (hn : n ≤ 4) :
    Calls Tryz.prog 261 #[.slice ad n c] w fun e w' => e = .returned (.int .i64 (valL l)) ∧ w' = w := by
  have HL : Hid (l.length = n) := hl
  clear hl
  go_enter Tryz.func261, Tryz.ntmps261
  go_wp2
  go_loop [3, 8] (fun v i => ∃ j : Nat, j ≤ n ∧ i = .int .i64 j ∧ v = .int .i64 (valL (l.take j))) (fun _ i => n - (intOf i).toNat)
  case atStart => exact ⟨0, by omega, rfl, rfl⟩
  case round =>
    obtain ⟨j, hj, rfl, rfl⟩ := hrel
    have hA : Hid (valL (l.take j) < 256 ^ j) := by
      have h1 := valL_lt (l.take j)
      rw [List.length_take, HL.out, Nat.min_eq_left (by omega)] at h1
      exact h1
    by_cases hlt : j < n
    · have hlt' : (j : Int) < n := by omega
      have g1 : j < l.length := by rw [HL.out]; omega
      obtain ⟨b1, o1, e1, q1⟩ := hb j (.int .u8 l[j].toNat) (by simp [arr, g1])
      subst e1
      obtain ⟨x, HX⟩ : ∃ x : Int, Hid ((l[j].toNat : Int) = x) := ⟨(l[j].toNat : Int), rfl⟩
      rw [HX.out] at q1
      obtain ⟨A, HA⟩ : ∃ A : Int, Hid ((valL (l.take j) : Int) = A) := ⟨_, rfl⟩
      rw [HA.out]
      go_wp2
      refine ⟨⟨j + 1, by omega, by go_num, ?_⟩, by simp [intOf]; omega⟩
      rw [← HA.out, ← HX.out, or_low _ _ (Nat.lt_of_lt_of_le hA.out (by
        have : 256 ^ j ≤ 256 ^ 3 := Nat.pow_le_pow_right (by omega) (by omega)
        omega)) (l[j].toNat_lt), List.take_succ_eq_append_getElem g1, valL_snoc]
    · obtain rfl : j = n := by omega
      have HT : Hid (l.take j = l) := List.take_of_length_le (by rw [HL.out]; omega)
      go_wp2
      go_ret
      exact ⟨ret_int (by rw [HT.out]), rfl⟩

theorem num2_val (l : List UInt8) (e : Nat) (h : e + 2 ≤ l.length) : valL ((l.drop e).take 2) = num2 l e := by
  rw [be2_num2 l e h]
  have := num2_lt l e
  simp [valL, be2]
  omega
theorem num4_val (l : List UInt8) (e : Nat) (h : e + 4 ≤ l.length) : valL ((l.drop e).take 4) = num4 l e := by
  rw [be4_num4 l e h]
  have := num4_lt l e
  simp [valL, be4]
  omega

/-- A slice of 512 bytes in memory. -/
structure At512 (w : World) (g o c : Nat) (l : List UInt8) : Prop where
  len : l.length = 512
  bytes : BytesAt w (some ⟨g, o, none⟩) l
  cap : 512 ≤ c
theorem At512.kept {w w' : World} {g o c : Nat} {l : List UInt8} {L : List Nat} (h : At512 w g o c l) (k : Fr L w w') (hg : g ∉ L) : At512 w' g o c l :=
  ⟨h.len, h.bytes.kept k (fun b off e => by cases e; exact hg), h.cap⟩
theorem At512.cell {w : World} {g o c : Nat} {l : List UInt8} (h : At512 w g o c l) (j : Nat) (hj : j < 512) : w.cell? ⟨g, o + j, none⟩ = some (.int .u8 (byteAt l j).toNat) := by
  obtain ⟨b, off, e, hc⟩ := h.bytes.at j (by rw [h.len]; exact hj)
  cases e
  exact hc

set_option maxHeartbeats 400000 in
set_option maxRecDepth 100000 in
theorem behind_any (w : World) (g o c e : Nat) (l : List UInt8) (h : At512 w g o c l) (he : e + 2 ≤ 512) :
    Calls Tryz.prog 231 #[.slice (some ⟨g, o, none⟩) 512 c, .int .i64 e] w fun r w' => r = .returned (.int .i64 (beh l e)) ∧ w' = w := by
  have hcap : (512 : Int) ≤ c := by have := h.cap; omega
  have he' : (e : Int) + 2 ≤ c := by omega
  have he0 : (0 : Int) ≤ e := by omega
  have hlt := num2_lt l e
  have HN : Hid (valL ((l.drop e).take 2) = num2 l e) := num2_val l e (by rw [h.len]; exact he)
  have HB : Hid (beh l e = e + 2 + num2 l e) := rfl
  have hb2 := h.bytes.sub e 2
  have hl2 : ((l.drop e).take 2).length = 2 := by rw [List.length_take, List.length_drop, h.len]; omega
  go_enter Tryz.func231, Tryz.ntmps231
  go_wp2_with (go_at_call 261; refine (number_any _ _ 2 _ _ hl2 hb2 (by omega)).mono ?_; rintro e1 w ⟨rfl, rfl⟩; rw [HN.out])
  go_ret
  rw [HB.out]
  exact ⟨by go_num, rfl⟩

/-! ### measure -/
def endOf (l : List UInt8) : Nat := match pageOf l with
  | some cs => 6 + elen cs
  | none => 0
def okP (l : List UInt8) : Bool := (pageOf l).isSome

theorem okP_some {l : List UInt8} {cs : List (List UInt8)} (h : pageOf l = some cs) : okP l = true ∧ endOf l = 6 + elen cs := by
  unfold okP endOf; rw [h]; exact ⟨rfl, rfl⟩
theorem okP_none {l : List UInt8} (h : pageOf l = none) : okP l = false ∧ endOf l = 0 := by
  unfold okP endOf; rw [h]; exact ⟨rfl, rfl⟩

set_option maxHeartbeats 400000 in
theorem measure_len (w : World) (ad : Option Addr) (n c : Nat) (hn : n ≠ 512) :
    Calls Tryz.prog 162 #[.slice ad n c] w fun r w' => r = .returned (.tuple #[.int .i64 0, .bool false]) ∧ w' = w := by
  have hb : ((n : Int) != 512) = true := by simp; omega
  go_enter Tryz.func162, Tryz.ntmps162
  go_wp2
  go_ret2
  exact ⟨rfl, rfl⟩

theorem ret_two {k : IntKind} {a b : Int} {x y : Bool} (h : a = b) (h2 : x = y) : Ending.returned (.tuple #[.int k a, .bool x]) = .returned (.tuple #[.int k b, .bool y]) := by rw [h, h2]

set_option maxHeartbeats 1000000 in
set_option maxRecDepth 100000 in
theorem measure_512 (w : World) (g o c : Nat) (l : List UInt8) (h : At512 w g o c l) :
    Calls Tryz.prog 162 #[.slice (some ⟨g, o, none⟩) 512 c] w fun r w' => r = .returned (.tuple #[.int .i64 (endOf l), .bool (okP l)]) ∧ w' = w := by
  have hcap : (512 : Int) ≤ c := by have := h.cap; omega
  have q1 := h.cell 1 (by omega)
  have hl1 := (byteAt l 1).toNat_lt
  obtain ⟨N, HN⟩ : ∃ N : Nat, Hid ((byteAt l 1).toNat = N) := ⟨_, rfl⟩
  rw [HN.out] at q1 hl1
  have HP : Hid (pageOf l = cellsAt l N 6) := by
    show pageOf l = _
    unfold pageOf
    rw [if_pos h.len, HN.out]
  have hw : wrap64 (N : Int) = N := by unfold wrap64; omega
  go_enter Tryz.func162, Tryz.ntmps162
  go_wp2
  go_loop [4, 14] (fun en i => ∃ (j e : Nat) (cs : List (List UInt8)), j ≤ N ∧ 6 ≤ e ∧ e ≤ 512 ∧ i = .int .i64 j ∧ en = .int .i64 e ∧ cellsAt l N 6 = (cellsAt l (N - j) e).map (cs ++ ·) ∧ e = 6 + elen cs) (fun _ i => N - (intOf i).toNat)
  case atStart => exact ⟨0, 6, [], by omega, by omega, by omega, rfl, rfl, by simp, rfl⟩
  case round =>
    obtain ⟨j, e, cs, hj, he6, he, rfl, rfl, hce, hel⟩ := hrel
    have HC : Hid (cellsAt l N 6 = (cellsAt l (N - j) e).map (cs ++ ·)) := hce
    have HE : Hid (e = 6 + elen cs) := hel
    clear hce hel
    by_cases hlt : j < N
    · have hlt' : (j : Int) < N := by omega
      obtain ⟨k, hk⟩ : ∃ k, N - j = k + 1 := ⟨N - j - 1, by omega⟩
      by_cases h2 : 512 < e + 2
      · have h2' : (512 : Int) - e < 2 := by omega
        have HZ : Hid (pageOf l = none) := by
          show pageOf l = none
          rw [HP.out, HC.out, hk]
          unfold cellsAt
          rw [if_pos (by rw [h.len]; exact h2)]
          rfl
        clear hk
        go_wp2
        go_ret2
        exact ⟨ret_two (by rw [(okP_none HZ.out).2]; rfl) (by rw [(okP_none HZ.out).1]), rfl⟩
      · have h2' : ¬ (512 : Int) - e < 2 := by omega
        by_cases h3 : 512 < beh l e
        · have h3' : (512 : Int) < (beh l e : Nat) := by omega
          have HZ : Hid (pageOf l = none) := by
            show pageOf l = none
            rw [HP.out, HC.out, hk]
            unfold cellsAt
            rw [if_neg (by rw [h.len]; exact h2), if_pos (by rw [h.len]; exact h3)]
            rfl
          clear hk
          go_wp2_with (go_at_call 231; refine (behind_any _ g o c e l h (by omega)).mono ?_; rintro e1 w ⟨rfl, rfl⟩)
          go_ret2
          exact ⟨ret_two (by rw [(okP_none HZ.out).2]; rfl) (by rw [(okP_none HZ.out).1]), rfl⟩
        · have h3' : ¬ (512 : Int) < (beh l e : Nat) := by omega
          have HK : Hid (N - j = k + 1) := hk
          clear hk
          go_wp2_with (go_at_call 231; refine (behind_any _ g o c e l h (by omega)).mono ?_; rintro e1 w ⟨rfl, rfl⟩)
          go_round
          case measure => simp [intOf]; omega
          refine ⟨j + 1, beh l e, cs ++ [(l.drop (e + 2)).take (num2 l e)], by omega, by unfold beh; omega, by omega, by go_num, rfl, ?_, ?_⟩
          · rw [HC.out, HK.out, show N - (j + 1) = k by have := HK.out; omega]
            conv => lhs; unfold cellsAt
            rw [if_neg (by rw [h.len]; exact h2), if_neg (by rw [h.len]; exact h3), Option.map_map]
            congr 1
            funext x
            simp
          · rw [elen_append, elen_one, List.length_take, List.length_drop, h.len]
            have := HE.out
            unfold beh at h3 ⊢
            omega
    · obtain rfl : j = N := by omega
      have HC2 : Hid (pageOf l = (cellsAt l 0 e).map (cs ++ ·)) := by
        show pageOf l = _
        rw [HP.out, HC.out, Nat.sub_self]
      have he' : (e : Int) ≤ 512 := by omega
      have he'' : (e : Int) ≤ c := by omega
      have hdl : (l.drop e).length = 512 - e := by rw [List.length_drop, h.len]
      by_cases hec : e = c
      · have HZ : Hid (pageOf l = some cs) := by
          show pageOf l = some cs
          have h0 : (l.drop e) = [] := List.eq_nil_of_length_eq_zero (by rw [hdl]; have := h.cap; omega)
          rw [HC2.out]
          unfold cellsAt
          rw [h0]
          simp
        have he2 : (e : Int) = 512 := by have := h.cap; omega
        have HE2 : Hid (e = 6 + elen cs) := HE
        clear HE HC2 HC hdl
        subst hec
        go_wp2
        go_loop [33] (fun i => i = .int .i64 0) (fun _ => 0)
        case atStart => rfl
        case round =>
          subst hrel
          have h00 : (512 : Int) - e = 0 := by omega
          go_wp2
          go_ret2
          exact ⟨ret_two (by rw [(okP_some HZ.out).2, ← HE2.out]; omega) (by rw [(okP_some HZ.out).1]), rfl⟩
      · have hec' : ¬ (e : Int) = c := by omega
        have hec2 : ¬ (c : Int) = e := by omega
        have hlen : (0 : Int) ≤ 512 - e := by omega
        go_wp2
        go_loop [33] (fun i => ∃ k : Nat, k ≤ 512 - e ∧ i = .int .i64 k ∧ (((l.drop e).take k).all (· == 0)) = true) (fun i => 512 - e - (intOf i).toNat)
        case atStart => exact ⟨0, by omega, rfl, by simp⟩
        case round =>
          obtain ⟨k, hk, rfl, hz⟩ := hrel
          have HZ : Hid ((((l.drop e).take k).all (· == 0)) = true) := hz
          clear hz
          by_cases hkl : k < 512 - e
          · have hkl' : (k : Int) < 512 - e := by omega
            have q2 := h.cell (e + k) (by omega)
            rw [← Nat.add_assoc] at q2
            have hb : byteAt l (e + k) = (l.drop e)[k]'(by rw [hdl]; exact hkl) := by
              rw [byteAt_lt (by rw [h.len]; omega)]; simp
            by_cases hb0 : byteAt l (e + k) = 0
            · have hx : ((byteAt l (e + k)).toNat : Int) = 0 := by rw [hb0]; rfl
              rw [hx] at q2
              have HB : Hid ((l.drop e)[k]'(by rw [hdl]; exact hkl) = 0) := hb.symm.trans hb0
              clear hb hb0 hx
              go_wp2
              refine ⟨⟨k + 1, by omega, by go_num, ?_⟩, by simp [intOf]; omega⟩
              rw [List.take_succ_eq_append_getElem (by rw [hdl]; exact hkl), List.all_append, HZ.out, HB.out]
              rfl
            · have hx : (((byteAt l (e + k)).toNat : Int) != 0) = true := by
                simp only [bne_iff_ne, ne_eq]
                intro h0
                exact hb0 (UInt8.toNat_inj.1 (by simpa using h0))
              have HN0 : Hid (pageOf l = none) := by
                show pageOf l = none
                rw [HC2.out]
                unfold cellsAt
                rw [if_neg]
                · rfl
                · intro ha
                  rw [List.all_eq_true] at ha
                  have := ha ((l.drop e)[k]'(by rw [hdl]; exact hkl)) (List.getElem_mem _)
                  rw [← hb] at this
                  exact hb0 (by simpa using this)
              clear hb hb0
              obtain ⟨x, HX⟩ : ∃ x : Int, Hid (((byteAt l (e + k)).toNat : Int) = x) := ⟨_, rfl⟩
              rw [HX.out] at q2 hx
              go_wp2
              go_ret2
              exact ⟨ret_two (by rw [(okP_none HN0.out).2]; rfl) (by rw [(okP_none HN0.out).1]), rfl⟩
          · obtain rfl : k = 512 - e := by omega
            have HS : Hid (pageOf l = some cs) := by
              show pageOf l = some cs
              have hz := HZ.out
              rw [List.take_of_length_le (by rw [hdl]; omega)] at hz
              rw [HC2.out]
              unfold cellsAt
              rw [if_pos hz]
              simp
            have hn0 : ¬ ((512 - e : Nat) : Int) < 512 - e := by omega
            go_wp2
            go_ret2
            exact ⟨ret_two (by rw [(okP_some HS.out).2, ← HE.out]) (by rw [(okP_some HS.out).1]), rfl⟩
end Go.Proofs.YthajipigppndgaaGreat.Pg

namespace Go.Proofs.YthajipigppndgaaGreat.Pg
open Go.RowKit Go.Maps

/-- The value of a slice of bytes in memory; of 512 bytes it has an address. -/
structure SlAt (w : World) (ad : Option Addr) (n c : Nat) (l : List UInt8) : Prop where
  len : l.length = n
  bytes : BytesAt w ad l
  cap : n ≤ c
theorem SlAt.at512 {w : World} {ad : Option Addr} {n c : Nat} {l : List UInt8} (h : SlAt w ad n c l) (hn : n = 512) : ∃ g o, ad = some ⟨g, o, none⟩ ∧ At512 w g o c l := by
  obtain ⟨g, o, e, _⟩ := h.bytes.at 0 (by rw [h.len]; omega)
  subst e
  exact ⟨g, o, rfl, by rw [h.len]; exact hn, h.bytes, by have := h.cap; omega⟩
theorem SlAt.kept {w w' : World} {ad : Option Addr} {n c : Nat} {l : List UInt8} {L : List Nat} (h : SlAt w ad n c l) (k : Fr L w w') (hL : ∀ b off, ad = some ⟨b, off, none⟩ → b ∉ L) : SlAt w' ad n c l :=
  ⟨h.len, h.bytes.kept k hL, h.cap⟩
theorem At512.sl {w : World} {g o c : Nat} {l : List UInt8} (h : At512 w g o c l) : SlAt w (some ⟨g, o, none⟩) 512 c l := ⟨h.len, h.bytes, h.cap⟩

theorem measure_any (w : World) (ad : Option Addr) (n c : Nat) (l : List UInt8) (h : SlAt w ad n c l) :
    Calls Tryz.prog 162 #[.slice ad n c] w fun r w' => r = .returned (.tuple #[.int .i64 (endOf l), .bool (okP l)]) ∧ w' = w := by
  by_cases hn : n = 512
  · obtain ⟨g, o, rfl, h5⟩ := h.at512 hn
    subst hn
    exact measure_512 w g o c l h5
  · have hp := okP_none (pageOf_len l (by rw [h.len]; exact hn))
    rw [hp.1, hp.2]
    exact measure_len w ad n c hn

set_option maxHeartbeats 400000 in
set_option maxRecDepth 100000 in
theorem check_any (w : World) (ad : Option Addr) (n c : Nat) (l : List UInt8) (h : SlAt w ad n c l) :
    Calls Tryz.prog 160 #[.slice ad n c] w fun r w' => r = .returned (.bool (okP l)) ∧ w' = w := by
  go_enter Tryz.func160, Tryz.ntmps160
  go_wp2_with (go_at_call 162; refine (measure_any _ _ _ _ l h).mono ?_; rintro e1 w ⟨rfl, rfl⟩)
  go_ret
  exact ⟨rfl, rfl⟩

/-- A right page. -/
structure Pg (l : List UInt8) (k : UInt8) (x : Nat) (cs : List (List UInt8)) : Prop where
  eq : l = pgB k x cs
  fits : elen cs ≤ 506
  nx : x < 4294967296
theorem Pg.of {l : List UInt8} {cs : List (List UInt8)} (h : pageOf l = some cs) : Pg l (byteAt l 0) (num4 l 2) cs := by
  obtain ⟨h1, h2⟩ := pgB_of l cs h
  exact ⟨h2, h1, num4_lt l 2⟩
theorem Pg.page {l : List UInt8} {k : UInt8} {x : Nat} {cs : List (List UInt8)} (h : Pg l k x cs) : pageOf l = some cs := by
  rw [h.eq]; exact pageOf_pgB k x cs h.fits
theorem Pg.len {l : List UInt8} {k : UInt8} {x : Nat} {cs : List (List UInt8)} (h : Pg l k x cs) : l.length = 512 := by rw [h.eq]; exact pgB_length k x cs h.fits
theorem Pg.ok {l : List UInt8} {k : UInt8} {x : Nat} {cs : List (List UInt8)} (h : Pg l k x cs) : okP l = true := (okP_some h.page).1
theorem Pg.end {l : List UInt8} {k : UInt8} {x : Nat} {cs : List (List UInt8)} (h : Pg l k x cs) : endOf l = 6 + elen cs := (okP_some h.page).2
theorem Pg.kind {l : List UInt8} {k : UInt8} {x : Nat} {cs : List (List UInt8)} (h : Pg l k x cs) : byteAt l 0 = k := by rw [h.eq]; exact pgB_kind k x cs
theorem Pg.count {l : List UInt8} {k : UInt8} {x : Nat} {cs : List (List UInt8)} (h : Pg l k x cs) : (byteAt l 1).toNat = cs.length := by rw [h.eq]; exact pgB_count k x cs h.fits
theorem Pg.next {l : List UInt8} {k : UInt8} {x : Nat} {cs : List (List UInt8)} (h : Pg l k x cs) : num4 l 2 = x := by rw [h.eq]; exact pgB_next k x cs h.nx
theorem Pg.few {l : List UInt8} {k : UInt8} {x : Nat} {cs : List (List UInt8)} (h : Pg l k x cs) : cs.length ≤ 253 := by have := elen_ge cs; have := h.fits; omega

/-- What a row of bytes tells: kind, next, cells. -/
def kindOf (l : List UInt8) : Nat := if okP l then (byteAt l 0).toNat else 0
def nextOf (l : List UInt8) : Nat := if okP l then num4 l 2 else 0
def cellsOf (l : List UInt8) : List (List UInt8) := (pageOf l).getD []
theorem cells_some {l : List UInt8} {cs : List (List UInt8)} (h : pageOf l = some cs) : cellsOf l = cs := by unfold cellsOf; rw [h]; rfl
theorem cells_none {l : List UInt8} (h : pageOf l = none) : cellsOf l = [] := by unfold cellsOf; rw [h]; rfl
theorem page_or (l : List UInt8) : (pageOf l = none ∧ okP l = false) ∨ (∃ cs, pageOf l = some cs ∧ okP l = true ∧ Pg l (byteAt l 0) (num4 l 2) cs) := by
  cases h : pageOf l with
  | none => exact Or.inl ⟨rfl, (okP_none h).1⟩
  | some cs => exact Or.inr ⟨cs, rfl, (okP_some h).1, Pg.of h⟩

set_option maxHeartbeats 400000 in
set_option maxRecDepth 100000 in
theorem kind_any (w : World) (ad : Option Addr) (n c : Nat) (l : List UInt8) (h : SlAt w ad n c l) :
    Calls Tryz.prog 234 #[.slice ad n c] w fun r w' => r = .returned (.int .u8 (kindOf l)) ∧ w' = w := by
  rcases page_or l with ⟨hp, hk⟩ | ⟨cs, hp, hk, pg⟩
  · have HK : Hid (kindOf l = 0) := by show kindOf l = 0; unfold kindOf; rw [hk]; rfl
    go_enter Tryz.func234, Tryz.ntmps234
    go_wp2_with (go_at_call 160; refine (check_any _ _ _ _ l h).mono ?_; rintro e1 w ⟨rfl, rfl⟩)
    go_ret
    exact ⟨ret_int (by rw [HK.out]; rfl), rfl⟩
  · have HK : Hid (kindOf l = (byteAt l 0).toNat) := by show kindOf l = _; unfold kindOf; rw [hk]; rfl
    obtain ⟨g, o, rfl, h5⟩ := h.at512 (by rw [← h.len, pg.len])
    obtain rfl : n = 512 := by rw [← h.len, pg.len]
    have q0 := h5.cell 0 (by omega)
    rw [Nat.add_zero] at q0
    go_enter Tryz.func234, Tryz.ntmps234
    go_wp2_with (go_at_call 160; refine (check_any _ _ _ _ l h).mono ?_; rintro e1 w ⟨rfl, rfl⟩)
    go_ret
    exact ⟨ret_int (by rw [HK.out]), rfl⟩

set_option maxHeartbeats 400000 in
set_option maxRecDepth 100000 in
theorem next_any (w : World) (ad : Option Addr) (n c : Nat) (l : List UInt8) (h : SlAt w ad n c l) :
    Calls Tryz.prog 235 #[.slice ad n c] w fun r w' => r = .returned (.int .i64 (nextOf l)) ∧ w' = w := by
  rcases page_or l with ⟨hp, hk⟩ | ⟨cs, hp, hk, pg⟩
  · have HK : Hid (nextOf l = 0) := by show nextOf l = 0; unfold nextOf; rw [hk]; rfl
    go_enter Tryz.func235, Tryz.ntmps235
    go_wp2_with (go_at_call 160; refine (check_any _ _ _ _ l h).mono ?_; rintro e1 w ⟨rfl, rfl⟩)
    go_ret
    exact ⟨ret_int (by rw [HK.out]; rfl), rfl⟩
  · have HK : Hid (nextOf l = num4 l 2) := by show nextOf l = _; unfold nextOf; rw [hk]; rfl
    obtain ⟨g, o, rfl, h5⟩ := h.at512 (by rw [← h.len, pg.len])
    obtain rfl : n = 512 := by rw [← h.len, pg.len]
    have hcap : (512 : Int) ≤ c := by have := h5.cap; omega
    have hc6 : (6 : Int) ≤ c := by omega
    have hb4 := h5.bytes.sub 2 4
    have hl4 : ((l.drop 2).take 4).length = 4 := by rw [List.length_take, List.length_drop, h5.len]; rfl
    have HV : Hid (valL ((l.drop 2).take 4) = num4 l 2) := num4_val l 2 (by rw [h5.len]; omega)
    go_enter Tryz.func235, Tryz.ntmps235
    go_wp2_with (first
      | (go_at_call 160; refine (check_any _ _ _ _ l h).mono ?_; rintro e1 w ⟨rfl, rfl⟩)
      | (go_at_call 261; refine (number_any _ _ 4 _ _ hl4 hb4 (by omega)).mono ?_; rintro e1 w ⟨rfl, rfl⟩))
    go_ret
    exact ⟨ret_int (by rw [HK.out, HV.out]), rfl⟩

set_option maxHeartbeats 400000 in
set_option maxRecDepth 100000 in
theorem count_any (w : World) (ad : Option Addr) (n c : Nat) (l : List UInt8) (h : SlAt w ad n c l) :
    Calls Tryz.prog 233 #[.slice ad n c] w fun r w' => r = .returned (.int .i64 (cellsOf l).length) ∧ w' = w := by
  rcases page_or l with ⟨hp, hk⟩ | ⟨cs, hp, hk, pg⟩
  · have HK : Hid (cellsOf l = []) := cells_none hp
    go_enter Tryz.func233, Tryz.ntmps233
    go_wp2_with (go_at_call 160; refine (check_any _ _ _ _ l h).mono ?_; rintro e1 w ⟨rfl, rfl⟩)
    go_ret
    exact ⟨ret_int (by rw [HK.out]; rfl), rfl⟩
  · have HK : Hid (cellsOf l = cs) := cells_some hp
    obtain ⟨g, o, rfl, h5⟩ := h.at512 (by rw [← h.len, pg.len])
    obtain rfl : n = 512 := by rw [← h.len, pg.len]
    have q1 := h5.cell 1 (by omega)
    rw [pg.count] at q1
    have hf := pg.few
    go_enter Tryz.func233, Tryz.ntmps233
    go_wp2_with (go_at_call 160; refine (check_any _ _ _ _ l h).mono ?_; rintro e1 w ⟨rfl, rfl⟩)
    go_ret
    exact ⟨ret_int (by rw [HK.out]), rfl⟩

set_option maxHeartbeats 400000 in
set_option maxRecDepth 100000 in
theorem place_any (w : World) (g o c s : Nat) (l : List UInt8) (k : UInt8) (x : Nat) (cs : List (List UInt8)) (pg : Pg l k x cs) (h : At512 w g o c l) (hs : s ≤ cs.length) :
    Calls Tryz.prog 164 #[.slice (some ⟨g, o, none⟩) 512 c, .int .i64 s] w fun r w' => r = .returned (.int .i64 (slotAt cs s)) ∧ w' = w := by
  have hf := pg.few
  have hs' : (s : Int) ≤ 253 := by omega
  have hfit := pg.fits
  go_enter Tryz.func164, Tryz.ntmps164
  go_wp2
  go_loop [5, 7] (fun en i => ∃ j : Nat, j ≤ s ∧ i = .int .i64 j ∧ en = .int .i64 (slotAt cs j)) (fun _ i => s - (intOf i).toNat)
  case atStart => exact ⟨0, by omega, rfl, rfl⟩
  case round =>
    obtain ⟨j, hj, rfl, rfl⟩ := hrel
    by_cases hlt : j < s
    · have hlt' : (j : Int) < s := by omega
      have hsu := slot_succ cs j (by omega)
      have hle := slot_le cs (j + 1)
      have HB : Hid (beh l (slotAt cs j) = slotAt cs (j + 1)) := by
        show _ = _
        rw [hsu, pg.eq]
        unfold beh
        rw [pgB_num k x cs j (by omega) hfit]
      have h2 : slotAt cs j + 2 ≤ 512 := by omega
      clear hsu hle
      go_wp2_with (go_at_call 231; refine (behind_any _ g o c _ l h h2).mono ?_; rintro e1 w ⟨rfl, rfl⟩)
      go_round
      case measure => simp [intOf]; omega
      exact ⟨j + 1, by omega, by go_num, by rw [HB.out]⟩
    · obtain rfl : j = s := by omega
      go_wp2
      go_ret
      exact ⟨rfl, rfl⟩
end Go.Proofs.YthajipigppndgaaGreat.Pg

namespace Go.Proofs.YthajipigppndgaaGreat.Pg
open Go.RowKit Go.Maps

/-- A block that begins with these bytes, of so many cells. -/
def RowB (w : World) (g c : Nat) (l : List UInt8) : Prop := ∃ tl : List Value, w.heap[g]? = some (.cells ((arr l).toList ++ tl).toArray 5) ∧ l.length + tl.length = c
theorem Blk.row {w : World} {g : Nat} {l : List UInt8} (h : Blk w g l) : RowB w g l.length l := ⟨[], by simpa [Blk] using h, by simp⟩
theorem RowB.kept {w w' : World} {g c : Nat} {l : List UInt8} {L : List Nat} (h : RowB w g c l) (k : Fr L w w') (hg : g ∉ L) : RowB w' g c l := by
  obtain ⟨tl, h1, h2⟩ := h
  exact ⟨tl, k.same hg h1, h2⟩
theorem RowB.lt {w : World} {g c : Nat} {l : List UInt8} (h : RowB w g c l) : g < w.heap.size := by
  obtain ⟨tl, h1, _⟩ := h
  exact (Array.getElem?_eq_some_iff.1 h1).1
theorem RowB.cap {w : World} {g c : Nat} {l : List UInt8} (h : RowB w g c l) : l.length ≤ c := by
  obtain ⟨tl, _, h2⟩ := h
  omega
theorem RowB.bytes {w : World} {g c : Nat} {l : List UInt8} (h : RowB w g c l) : BytesAt w (some ⟨g, 0, none⟩) l := by
  obtain ⟨tl, h1, h2⟩ := h
  intro j v hv
  refine ⟨g, 0, rfl, ?_⟩
  have hj : j < (arr l).toList.length := (List.getElem?_eq_some_iff.1 hv).1
  rw [Nat.zero_add, cell_of_row w g j _ _ _ h1, ← hv]
  rw [List.getElem?_toArray, List.getElem?_append_left hj]
theorem RowB.frozen {w : World} {g c : Nat} {l : List UInt8} (h : RowB w g c l) (j : Nat) : w.frozen? ⟨g, j, none⟩ = false := by
  obtain ⟨tl, h1, h2⟩ := h
  exact frozen_of_row w g j _ _ h1
theorem RowB.cell {w : World} {g c : Nat} {l : List UInt8} (h : RowB w g c l) (j : Nat) (hj : j < l.length) : w.cell? ⟨g, j, none⟩ = some (.int .u8 (byteAt l j).toNat) := by
  obtain ⟨b, off, e, hc⟩ := h.bytes.at j hj
  cases e
  rw [Nat.zero_add] at hc
  exact hc
theorem RowB.sl {w : World} {g c : Nat} {l : List UInt8} (h : RowB w g c l) : SlAt w (some ⟨g, 0, none⟩) l.length c l := ⟨rfl, h.bytes, h.cap⟩
theorem RowB.set {w : World} {g c : Nat} {l : List UInt8} (h : RowB w g c l) (j : Nat) (b : UInt8) (hj : j < l.length) : RowB (w.setCell ⟨g, j, none⟩ (.int .u8 b.toNat)) g c (l.set j b) := by
  obtain ⟨tl, h1, h2⟩ := h
  refine ⟨tl, ?_, by simpa using h2⟩
  rw [heap_setCell_same w g j _ _ (.int .u8 b.toNat) h1]
  congr 2
  apply Array.ext'
  simp only [Array.toList_setIfInBounds, arr, List.map_set]
  rw [List.set_append_left _ _ (by simpa using hj)]

/-- Bytes written over others, from a place on. -/
def over (p : List UInt8) (off : Nat) (l : List UInt8) : List UInt8 := p.take off ++ (l ++ p.drop (off + l.length))
theorem over_length (p : List UInt8) (off : Nat) (l : List UInt8) (h : off + l.length ≤ p.length) : (over p off l).length = p.length := by
  simp [over]; omega

section
variable {ops : Array Oper} {rest : List Oper} {o : Oper} {a : Act} {w : World} {Q : Exit → Act → World → Prop}

theorem run_copyB (g off : Nat) (dp : Option Addr) (dn dc : Nat) (ad : Option Addr) (sn sc c : Nat) (p l : List UInt8) (hg : RowB w g c p) (hl : l.length = Nat.min sn dn) (hd : 0 < l.length → dp = some ⟨g, off, none⟩) (hsrc : BytesAt w ad l) (hfit : off + l.length ≤ p.length) :
    ∃ w', (∀ ty, (Builtin.copy_ #[26, 26] ty #[.slice dp dn dc, .slice ad sn sc]).run Tryz.prog w = .ok (goInt l.length) w') ∧ RowB w' g c (over p off l) ∧ Fr [g] w w' := by
  by_cases h0 : l.length = 0
  · have e0 : l = [] := List.eq_nil_of_length_eq_zero h0
    subst e0
    refine ⟨w, ?_, by simpa [over] using hg, Fr.refl _ _⟩
    exact fun ty => run_copy_none (P := Tryz.prog) w 26 26 ty 5 dp ad dn dc sn sc Tryz.underlying26 size5 (by simpa using hl.symm)
  · obtain ⟨b0, o0, rfl, _⟩ := hsrc.at 0 (by omega)
    rw [hd (by omega)]
    obtain ⟨tl, h1, h2⟩ := hg
    have hrun := fun ty => run_copy_row Tryz.prog w 26 26 ty 5 g off dn dc ⟨b0, o0, none⟩ sn sc _ 5 (arr l).toList Tryz.underlying26 size5 h1 (by simpa [arr] using hl)
      (by
        intro j v hv
        obtain ⟨b, o', e, hc⟩ := hsrc j v hv
        cases e
        rw [Addr.add_mid]
        exact hc) (by simp [arr]; omega) (arr_one l)
    have hln : (arr l).toList.length = l.length := by simp [arr]
    simp only [hln] at hrun
    refine ⟨_, hrun, ⟨tl, ?_, by rw [over_length _ _ _ hfit]; exact h2⟩, ⟨rfl, rfl, rfl, by simp, fun i _ hn => setRow_other w g i _ (fun e => hn (by simp [e]))⟩⟩
    rw [setRow_heap w g _ _ 5 _ h1]
    refine congrArg (fun z => some (Obj.cells z 5)) (Array.ext' ?_)
    simp only [over, arr, List.toList_toArray, List.map_append, List.map_take, List.map_drop]
    rw [List.take_append_of_le_length (by simp; omega), List.drop_append_of_le_length (by simp; omega)]
    simp

theorem wp_copyB (hgd : o.guard = none) (d s : Operand) (ho : o.op = .call { callee := .builtin .copy, args := #[d, s], argTypes := #[26, 26] }) (g off : Nat) (dp : Option Addr) (dn dc : Nat) (ad : Option Addr) (sn sc c : Nat) (p l : List UInt8)
    (hd : a.eval d = .slice dp dn dc) (hs : a.eval s = .slice ad sn sc) (hg : RowB w g c p) (hl : l.length = Nat.min sn dn) (hdp : 0 < l.length → dp = some ⟨g, off, none⟩) (hsrc : BytesAt w ad l) (hfit : off + l.length ≤ p.length)
    (h : ∀ w', RowB w' g c (over p off l) → Fr [g] w w' → wpList Tryz.prog ops Q rest (a.put o.dst (goInt l.length)) w') : wpList Tryz.prog ops Q (o :: rest) a w :=
  wpList_plain hgd fun K hK => by
    obtain ⟨w', hrun, h1, h2⟩ := run_copyB g off dp dn dc ad sn sc c p l hg hl hdp hsrc hfit
    unfold Oper.wp execOp
    simp [ho, resolve, invoke, builtin, hd, hs, hrun, Result.andThen]
    exact hK _ _ (h _ h1 h2)

/-- The same as a step of a region that draws its order. -/
theorem step_copyB {K : Act → World → Prop} {E : Prop} (hgd : o.guard = none) (d s : Operand) (ho : o.op = .call { callee := .builtin .copy, args := #[d, s], argTypes := #[26, 26] }) (g off : Nat) (dp : Option Addr) (dn dc : Nat) (ad : Option Addr) (sn sc c : Nat) (p l : List UInt8)
    (hd : a.eval d = .slice dp dn dc) (hs : a.eval s = .slice ad sn sc) (hg : RowB w g c p) (hl : l.length = Nat.min sn dn) (hdp : 0 < l.length → dp = some ⟨g, off, none⟩) (hsrc : BytesAt w ad l) (hfit : off + l.length ≤ p.length)
    (h : ∀ w', RowB w' g c (over p off l) → Fr [g] w w' → K (a.put o.dst (goInt l.length)) w') :
    if Region.wanted o (yielded ops a.tmps) = true then Oper.wp Tryz.prog o a w K Q else E := by
  have hw : Region.wanted o (yielded ops a.tmps) = true := by simp [Region.wanted, hgd]
  rw [if_pos hw]
  obtain ⟨w', hrun, h1, h2⟩ := run_copyB g off dp dn dc ad sn sc c p l hg hl hdp hsrc hfit
  unfold Oper.wp
  simp [execOp, ho, resolve, invoke, builtin, hd, hs, hrun, Result.andThen]
  exact h _ h1 h2

theorem run_clearB (ty : TypeId) (ad : Option Addr) (g off n nc c : Nat) (p : List UInt8) (hg : RowB w g c p) (had : 0 < n → ad = some ⟨g, off, none⟩) (hfit : off + n ≤ p.length) :
    ∃ w', (Builtin.clear_ #[26] ty #[.slice ad n nc]).run Tryz.prog w = .ok (.tuple #[]) w' ∧ RowB w' g c (over p off (zs n)) ∧ Fr [g] w w' := by
  obtain ⟨i, hi, hz, hsz, hb⟩ := info5'
  cases n with
  | zero =>
    refine ⟨w, ?_, by simpa [over, zs] using hg, Fr.refl _ _⟩
    cases ad <;> simp [Builtin.clear_, run_underlying Tryz.underlying26]
  | succ m =>
    rw [had (by omega)]
    obtain ⟨tl, h1, h2⟩ := hg
    have hst := run_storeCells_at Tryz.prog g off 5 (arr (zs (m + 1))).toList 0 _ w h1 (by simp [arr, zs_length]; omega) (arr_one _)
    have hzc : (Builtin.zeroCells (Value.int .u8 0).cells (m + 1)).toList = (arr (zs (m + 1))).toList := by
      simp [Builtin.zeroCells, arr, zs, Value.cells]
      apply List.ext_getElem
      · simp
      · intro i h1 h2
        simp [Nat.mod_one]
    have hrun : (Builtin.clear_ #[26] ty #[.slice (some ⟨g, off, none⟩) (m + 1) nc]).run Tryz.prog w = .ok (.tuple #[]) (w.setRow g (List.take (off + 0) ((arr p).toList ++ tl).toArray.toList ++ (arr (zs (m + 1))).toList ++ List.drop (off + 0 + (arr (zs (m + 1))).toList.length) ((arr p).toList ++ tl).toArray.toList).toArray) := by
      generalize (List.take (off + 0) ((arr p).toList ++ tl).toArray.toList ++ (arr (zs (m + 1))).toList ++ List.drop (off + 0 + (arr (zs (m + 1))).toList.length) ((arr p).toList ++ tl).toArray.toList).toArray = W at hst ⊢
      simp [Builtin.clear_, run_underlying Tryz.underlying26, zeroValue, typeInfo, hi, hz, hzc, hst]
    refine ⟨_, hrun, ⟨tl, ?_, by rw [over_length _ _ _ (by rw [zs_length]; omega)]; exact h2⟩, ⟨rfl, rfl, rfl, by simp, fun i _ hn => setRow_other w g i _ (fun e => hn (by simp [e]))⟩⟩
    rw [setRow_heap w g _ _ 5 _ h1]
    refine congrArg (fun z => some (Obj.cells z 5)) (Array.ext' ?_)
    simp only [over, arr, List.toList_toArray, List.length_map, List.map_append, List.map_take, List.map_drop, Nat.add_zero]
    rw [List.take_append_of_le_length (by simp; omega), List.drop_append_of_le_length (by simp [zs_length]; omega)]
    simp

theorem wp_clearB (hgd : o.guard = none) (d : Operand) (ho : o.op = .call { callee := .builtin .clear, args := #[d], argTypes := #[26] }) (ad : Option Addr) (g off n nc c : Nat) (p : List UInt8)
    (hd : a.eval d = .slice ad n nc) (hg : RowB w g c p) (had : 0 < n → ad = some ⟨g, off, none⟩) (hfit : off + n ≤ p.length)
    (h : ∀ w', RowB w' g c (over p off (zs n)) → Fr [g] w w' → wpList Tryz.prog ops Q rest (a.put o.dst (.tuple #[])) w') : wpList Tryz.prog ops Q (o :: rest) a w :=
  wpList_plain hgd fun K hK => by
    obtain ⟨w', hrun, h1, h2⟩ := run_clearB o.type ad g off n nc c p hg had hfit
    unfold Oper.wp execOp
    simp [ho, resolve, invoke, builtin, hd, hrun, Result.andThen]
    exact hK _ _ (h _ h1 h2)
end

set_option maxHeartbeats 400000 in
set_option maxRecDepth 100000 in
theorem copied_any (w : World) (ad : Option Addr) (n c : Nat) (l : List UInt8) (hl : l.length = n) (hb : BytesAt w ad l) (hn : n ≤ 1000000) :
    Calls Tryz.prog 163 #[.slice ad n c] w fun r w' => ∃ g, r = .returned (.slice (some ⟨g, 0, none⟩) n n) ∧ Blk w' g l ∧ w.heap.size ≤ g ∧ Fr [] w w' := by
  have HL : Hid (l.length = n) := hl
  clear hl
  go_enter Tryz.func163, Tryz.ntmps163
  go_wp2_with (first
    | (refine wp_make rfl _ _ rfl n rfl rfl (by omega) ?_; intro w1 g1 hg1 b1 f1)
    | (refine wp_copyB rfl _ _ rfl g1 0 _ n n ad n c _ _ l rfl rfl b1.row (by rw [HL.out]; exact (Nat.min_self n).symm) (fun _ => rfl) (hb.kept f1 (by simp)) (by rw [HL.out]; simp) ?_; intro w2 r2 f2))
  go_ret
  refine ⟨g1, rfl, ?_, hg1, f1.then f2 (fun i hi hm => by simp at hm; omega)⟩
  obtain ⟨tl, h1, h2⟩ := r2
  rw [over_length _ _ _ (by rw [HL.out]; simp), List.length_replicate] at h2
  have : tl = [] := List.eq_nil_of_length_eq_zero (by omega)
  subst this
  unfold Blk
  rw [h1]
  simp [over, HL.out]

theorem zs_set0 (n : Nat) (k : UInt8) : (zs (n + 1)).set 0 k = k :: zs n := by simp [zs, List.replicate_succ]
theorem pgB_new (k : UInt8) : pgB k 0 [] = k :: zs 511 := by
  show k :: (UInt8.ofNat 0 :: UInt8.ofNat 0 :: UInt8.ofNat 0 :: UInt8.ofNat 0 :: UInt8.ofNat 0 :: zs 506) = k :: zs 511
  have h : zs 5 ++ zs 506 = zs 511 := zs_add 5 506
  rw [← h]
  rfl
set_option maxHeartbeats 400000 in
set_option maxRecDepth 100000 in
theorem new_any (w : World) (k : UInt8) :
    Calls Tryz.prog 87 #[.int .u8 k.toNat] w fun r w' => ∃ g, r = .returned (.slice (some ⟨g, 0, none⟩) 512 512) ∧ Blk w' g (pgB k 0 []) ∧ w.heap.size ≤ g ∧ Fr [] w w' := by
  obtain ⟨x, HX⟩ : ∃ x : Int, Hid (x = (k.toNat : Int)) := ⟨_, rfl⟩
  rw [← HX.out]
  go_enter Tryz.func87, Tryz.ntmps87
  go_wp2_with (refine wp_make rfl _ _ rfl 512 rfl rfl (by omega) ?_; intro w1 g1 hg1 b1 f1; have q0 := b1.cell 0 (by simp); have z0 := b1.frozen 0)
  go_ret
  refine ⟨g1, rfl, ?_, hg1, f1.setCell _ _ (fun h => absurd h (by simp; omega))⟩
  have := b1.set 0 k
  rw [← HX.out] at this
  rw [pgB_new, ← zs_set0]
  exact this

theorem BytesAt.ifAd {w : World} {g o k c : Nat} {l : List UInt8} (h : BytesAt w (some ⟨g, o + k, none⟩) l) (h0 : c = k → l = []) : BytesAt w (if c = k then some ⟨g, o, none⟩ else some ⟨g, o + k, none⟩) l := by
  split
  · next e => rw [h0 e]; exact BytesAt.nil _ _
  · exact h

set_option maxHeartbeats 1000000 in
set_option maxRecDepth 100000 in
theorem get_yes (w : World) (g o c s : Nat) (l : List UInt8) (k : UInt8) (x : Nat) (cs : List (List UInt8)) (pg : Pg l k x cs) (h : At512 w g o c l) (hs : s < cs.length) :
    Calls Tryz.prog 232 #[.slice (some ⟨g, o, none⟩) 512 c, .int .i64 s] w fun r w' => ∃ b, r = .returned (.tuple #[.slice (some ⟨b, 0, none⟩) cs[s].length cs[s].length, .bool true]) ∧ Blk w' b cs[s] ∧ w.heap.size ≤ b ∧ Fr [] w w' := by
  have hf := pg.few
  have hfit := pg.fits
  have HC : Hid (cellsOf l = cs) := cells_some pg.page
  have hsl : (s : Int) < cs.length := by omega
  have hs0 : ¬ (s : Int) < 0 := by omega
  have hsu := slot_succ cs s hs
  have hle := slot_le cs (s + 1)
  have HB : Hid (beh l (slotAt cs s) = slotAt cs s + 2 + cs[s].length) := by
    show _ = _
    rw [pg.eq]
    unfold beh
    rw [pgB_num k x cs s hs hfit]
  have h2 : slotAt cs s + 2 ≤ 512 := by omega
  have hcell := h.bytes.sub (slotAt cs s + 2) cs[s].length
  have HD : Hid (((l.drop (slotAt cs s + 2)).take cs[s].length) = cs[s]) := by
    show _ = _
    rw [pg.eq]
    exact pgB_cell k x cs s hs
  rw [HD.out] at hcell
  obtain ⟨m, hm⟩ : ∃ m, cs[s].length = m := ⟨_, rfl⟩
  rw [hm] at hsu
  have hcap := h.cap
  go_enter Tryz.func232, Tryz.ntmps232
  go_wp2_with (first
    | (go_at_call 233; refine (count_any _ _ _ _ l h.sl).mono ?_; rintro e1 w ⟨rfl, rfl⟩; rw [HC.out])
    | (go_at_call 164; refine (place_any _ g o c s l k x cs pg h (by omega)).mono ?_; rintro e1 w ⟨rfl, rfl⟩)
    | (go_at_call 231; refine (behind_any _ g o c _ l h h2).mono ?_; rintro e1 w ⟨rfl, rfl⟩; rw [HB.out])
    | (go_at_call 163; refine (copied_any _ _ m _ cs[s] hm (hcell.ifAd (fun e => List.eq_nil_of_length_eq_zero (by omega))) (by omega)).mono ?_; rintro e1 w1 ⟨b, rfl, b1, hb1, f1⟩))
  all_goals
    go_ret2
    exact ⟨b, rfl, b1, hb1, f1⟩

set_option maxHeartbeats 1000000 in
set_option maxRecDepth 100000 in
theorem get_no (w : World) (ad : Option Addr) (n c : Nat) (l : List UInt8) (s : Int) (h : SlAt w ad n c l) (hs : s < 0 ∨ ((cellsOf l).length : Int) ≤ s) :
    Calls Tryz.prog 232 #[.slice ad n c, .int .i64 s] w fun r w' => r = .returned (.tuple #[.slice none 0 0, .bool false]) ∧ w' = w := by
  by_cases hs0 : s < 0
  · go_enter Tryz.func232, Tryz.ntmps232
    go_wp2
    go_ret2
    exact ⟨rfl, rfl⟩
  · have hs1 : ((cellsOf l).length : Int) ≤ s := by omega
    clear hs
    go_enter Tryz.func232, Tryz.ntmps232
    go_wp2_with (go_at_call 233; refine (count_any _ _ _ _ l h).mono ?_; rintro e1 w ⟨rfl, rfl⟩)
    go_ret2
    exact ⟨rfl, rfl⟩
end Go.Proofs.YthajipigppndgaaGreat.Pg

