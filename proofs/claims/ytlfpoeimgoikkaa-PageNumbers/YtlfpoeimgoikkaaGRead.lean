/-
  What a page tells: the program's number, behind, measure, place.
-/
import Derived.Test.YtlfpoeimgoikkaaLent
import Derived.Test.YtlfpoeimgoikkaaGMath
namespace Go.Proofs.Ytlfpoeimgoikkaa
open Go.RowKit Go.Maps

def valL (l : List UInt8) : Nat := l.foldl (fun n b => n * 256 + b.toNat) 0
theorem valL_snoc (l : List UInt8) (b : UInt8) : valL (l ++ [b]) = valL l * 256 + b.toNat := by simp [valL]
theorem valL_lt (l : List UInt8) : valL l < 256 ^ l.length := by
  suffices h : ∀ r : List UInt8, valL r.reverse < 256 ^ r.length by simpa using h l.reverse
  intro r
  induction r with
  | nil => simp [valL]
  | cons b r ih =>
    rw [List.reverse_cons, valL_snoc, List.length_cons, Nat.pow_succ]
    have := b.toNat_lt
    omega

theorem BytesAt.sub {w : World} {g o : Nat} {l : List UInt8} (h : BytesAt w (some ⟨g, o, none⟩) l) (i m : Nat) : BytesAt w (some ⟨g, o + i, none⟩) ((l.drop i).take m) := by
  intro j v hv
  have hv2 : (arr l).toList[i + j]? = some v := by
    simp only [arr, List.getElem?_map, List.getElem?_take, List.getElem?_drop] at hv ⊢
    split at hv
    · exact hv
    · cases hv
  obtain ⟨b, off, e, hc⟩ := h (i + j) v hv2
  cases e
  exact ⟨g, o + i, rfl, by rw [Nat.add_assoc]; exact hc⟩

theorem ret_int {k : IntKind} {a b : Int} (h : a = b) : Ending.returned (.int k a) = .returned (.int k b) := by rw [h]
theorem i64_or_nat (a b : Nat) (ha : a < 4611686018427387904) (hb : b < 4611686018427387904) : bits .or .i64 (a : Int) (b : Int) = ((a ||| b : Nat) : Int) := by
  have hx : a ||| b < 2 ^ 62 := Nat.or_lt_two_pow (by omega) (by omega)
  show IntKind.i64.wrap ((BitVec.ofInt 64 (a : Int) ||| BitVec.ofInt 64 (b : Int)).toNat : Int) = _
  rw [BitVec.toNat_or, ofInt_u64 a (by omega), ofInt_u64 b (by omega)]
  unfold IntKind.wrap
  simp [IntKind.signed, IntKind.bits]
  omega
theorem or_low (A x : Nat) (hA : A < 16777216) (hx : x < 256) : bits .or .i64 (wrap64 ((A : Int) * 256)) (wrap64 (x : Int)) = ((A * 256 + x : Nat) : Int) := by
  have e1 : wrap64 ((A : Int) * 256) = ((A * 256 : Nat) : Int) := by unfold wrap64; omega
  have e2 : wrap64 (x : Int) = (x : Int) := by unfold wrap64; omega
  rw [e1, e2, i64_or_nat _ _ (by omega) (by omega), nat_join 8 _ _ (by omega) (by omega)]

set_option maxHeartbeats 400000 in
set_option maxRecDepth 100000 in
theorem number_any (w : World) (ad : Option Addr) (n c : Nat) (l : List UInt8) (hl : l.length = n) (hb : BytesAt w ad l) (hn : n ≤ 4) :
    Calls Try.prog 55 #[.slice ad n c] w fun e w' => e = .returned (.int .i64 (valL l)) ∧ w' = w := by
  have HL : Hid (l.length = n) := hl
  clear hl
  go_enter Try.func55, Try.ntmps55
  go_wp2
  go_loop [3, 8] (fun v i => ∃ j : Nat, j ≤ n ∧ i = .int .i64 j ∧ v = .int .i64 (valL (l.take j))) (fun _ i => n - (intOf i).toNat)
  case atStart => exact ⟨0, by omega, rfl, rfl⟩
  case round =>
    obtain ⟨j, hj, rfl, rfl⟩ := hrel
    have hA : Hid (valL (l.take j) < 256 ^ j) := by
      have h1 := valL_lt (l.take j)
      rw [List.length_take, HL.out, Nat.min_eq_left (by omega)] at h1
      exact h1
    by_cases hlt : j < n
    · have hlt' : (j : Int) < n := by omega
      have g1 : j < l.length := by rw [HL.out]; omega
      obtain ⟨b1, o1, e1, q1⟩ := hb j (.int .u8 l[j].toNat) (by simp [arr, g1])
      subst e1
      obtain ⟨x, HX⟩ : ∃ x : Int, Hid ((l[j].toNat : Int) = x) := ⟨(l[j].toNat : Int), rfl⟩
      rw [HX.out] at q1
      obtain ⟨A, HA⟩ : ∃ A : Int, Hid ((valL (l.take j) : Int) = A) := ⟨_, rfl⟩
      rw [HA.out]
      go_wp2
      refine ⟨⟨j + 1, by omega, by go_num, ?_⟩, by simp [intOf]; omega⟩
      rw [← HA.out, ← HX.out, or_low _ _ (Nat.lt_of_lt_of_le hA.out (by
        have : 256 ^ j ≤ 256 ^ 3 := Nat.pow_le_pow_right (by omega) (by omega)
        omega)) (l[j].toNat_lt), List.take_succ_eq_append_getElem g1, valL_snoc]
    · obtain rfl : j = n := by omega
      have HT : Hid (l.take j = l) := List.take_of_length_le (by rw [HL.out]; omega)
      go_wp2
      go_ret
      exact ⟨ret_int (by rw [HT.out]), rfl⟩

theorem num2_val (l : List UInt8) (e : Nat) (h : e + 2 ≤ l.length) : valL ((l.drop e).take 2) = num2 l e := by
  rw [be2_num2 l e h]
  have := num2_lt l e
  simp [valL, be2]
  omega
theorem num4_val (l : List UInt8) (e : Nat) (h : e + 4 ≤ l.length) : valL ((l.drop e).take 4) = num4 l e := by
  rw [be4_num4 l e h]
  have := num4_lt l e
  simp [valL, be4]
  omega

/-- A slice of 512 bytes in memory. -/
structure At512 (w : World) (g o c : Nat) (l : List UInt8) : Prop where
  len : l.length = 512
  bytes : BytesAt w (some ⟨g, o, none⟩) l
  cap : 512 ≤ c
theorem At512.kept {w w' : World} {g o c : Nat} {l : List UInt8} {L : List Nat} (h : At512 w g o c l) (k : Fr L w w') (hg : g ∉ L) : At512 w' g o c l :=
  ⟨h.len, h.bytes.kept k (fun b off e => by cases e; exact hg), h.cap⟩
theorem At512.cell {w : World} {g o c : Nat} {l : List UInt8} (h : At512 w g o c l) (j : Nat) (hj : j < 512) : w.cell? ⟨g, o + j, none⟩ = some (.int .u8 (byteAt l j).toNat) := by
  obtain ⟨b, off, e, hc⟩ := h.bytes.at j (by rw [h.len]; exact hj)
  cases e
  exact hc

set_option maxHeartbeats 400000 in
set_option maxRecDepth 100000 in
theorem behind_any (w : World) (g o c e : Nat) (l : List UInt8) (h : At512 w g o c l) (he : e + 2 ≤ 512) :
    Calls Try.prog 43 #[.slice (some ⟨g, o, none⟩) 512 c, .int .i64 e] w fun r w' => r = .returned (.int .i64 (beh l e)) ∧ w' = w := by
  have hcap : (512 : Int) ≤ c := by have := h.cap; omega
  have he' : (e : Int) + 2 ≤ c := by omega
  have he0 : (0 : Int) ≤ e := by omega
  have hlt := num2_lt l e
  have HN : Hid (valL ((l.drop e).take 2) = num2 l e) := num2_val l e (by rw [h.len]; exact he)
  have HB : Hid (beh l e = e + 2 + num2 l e) := rfl
  have hb2 := h.bytes.sub e 2
  have hl2 : ((l.drop e).take 2).length = 2 := by rw [List.length_take, List.length_drop, h.len]; omega
  go_enter Try.func43, Try.ntmps43
  go_wp2_with (go_at_call 55; refine (number_any _ _ 2 _ _ hl2 hb2 (by omega)).mono ?_; rintro e1 w ⟨rfl, rfl⟩; rw [HN.out])
  go_ret
  rw [HB.out]
  exact ⟨by go_num, rfl⟩

/-! ### measure -/
def endOf (l : List UInt8) : Nat := match pageOf l with
  | some cs => 6 + elen cs
  | none => 0
def okP (l : List UInt8) : Bool := (pageOf l).isSome

theorem okP_some {l : List UInt8} {cs : List (List UInt8)} (h : pageOf l = some cs) : okP l = true ∧ endOf l = 6 + elen cs := by
  unfold okP endOf; rw [h]; exact ⟨rfl, rfl⟩
theorem okP_none {l : List UInt8} (h : pageOf l = none) : okP l = false ∧ endOf l = 0 := by
  unfold okP endOf; rw [h]; exact ⟨rfl, rfl⟩

set_option maxHeartbeats 400000 in
theorem measure_len (w : World) (ad : Option Addr) (n c : Nat) (hn : n ≠ 512) :
    Calls Try.prog 53 #[.slice ad n c] w fun r w' => r = .returned (.tuple #[.int .i64 0, .bool false]) ∧ w' = w := by
  have hb : ((n : Int) != 512) = true := by simp; omega
  go_enter Try.func53, Try.ntmps53
  go_wp2
  go_ret2
  exact ⟨rfl, rfl⟩

theorem ret_two {k : IntKind} {a b : Int} {x y : Bool} (h : a = b) (h2 : x = y) : Ending.returned (.tuple #[.int k a, .bool x]) = .returned (.tuple #[.int k b, .bool y]) := by rw [h, h2]

set_option maxHeartbeats 1000000 in
set_option maxRecDepth 100000 in
theorem measure_512 (w : World) (g o c : Nat) (l : List UInt8) (h : At512 w g o c l) :
    Calls Try.prog 53 #[.slice (some ⟨g, o, none⟩) 512 c] w fun r w' => r = .returned (.tuple #[.int .i64 (endOf l), .bool (okP l)]) ∧ w' = w := by
  have hcap : (512 : Int) ≤ c := by have := h.cap; omega
  have q1 := h.cell 1 (by omega)
  have hl1 := (byteAt l 1).toNat_lt
  obtain ⟨N, HN⟩ : ∃ N : Nat, Hid ((byteAt l 1).toNat = N) := ⟨_, rfl⟩
  rw [HN.out] at q1 hl1
  have HP : Hid (pageOf l = cellsAt l N 6) := by
    show pageOf l = _
    unfold pageOf
    rw [if_pos h.len, HN.out]
  have hw : wrap64 (N : Int) = N := by unfold wrap64; omega
  go_enter Try.func53, Try.ntmps53
  go_wp2
  go_loop [4, 14] (fun en i => ∃ (j e : Nat) (cs : List (List UInt8)), j ≤ N ∧ 6 ≤ e ∧ e ≤ 512 ∧ i = .int .i64 j ∧ en = .int .i64 e ∧ cellsAt l N 6 = (cellsAt l (N - j) e).map (cs ++ ·) ∧ e = 6 + elen cs) (fun _ i => N - (intOf i).toNat)
  case atStart => exact ⟨0, 6, [], by omega, by omega, by omega, rfl, rfl, by simp, rfl⟩
  case round =>
    obtain ⟨j, e, cs, hj, he6, he, rfl, rfl, hce, hel⟩ := hrel
    have HC : Hid (cellsAt l N 6 = (cellsAt l (N - j) e).map (cs ++ ·)) := hce
    have HE : Hid (e = 6 + elen cs) := hel
    clear hce hel
    by_cases hlt : j < N
    · have hlt' : (j : Int) < N := by omega
      obtain ⟨k, hk⟩ : ∃ k, N - j = k + 1 := ⟨N - j - 1, by omega⟩
      by_cases h2 : 512 < e + 2
      · have h2' : (512 : Int) - e < 2 := by omega
        have HZ : Hid (pageOf l = none) := by
          show pageOf l = none
          rw [HP.out, HC.out, hk]
          unfold cellsAt
          rw [if_pos (by rw [h.len]; exact h2)]
          rfl
        clear hk
        go_wp2
        go_ret2
        exact ⟨ret_two (by rw [(okP_none HZ.out).2]; rfl) (by rw [(okP_none HZ.out).1]), rfl⟩
      · have h2' : ¬ (512 : Int) - e < 2 := by omega
        by_cases h3 : 512 < beh l e
        · have h3' : (512 : Int) < (beh l e : Nat) := by omega
          have HZ : Hid (pageOf l = none) := by
            show pageOf l = none
            rw [HP.out, HC.out, hk]
            unfold cellsAt
            rw [if_neg (by rw [h.len]; exact h2), if_pos (by rw [h.len]; exact h3)]
            rfl
          clear hk
          go_wp2_with (go_at_call 43; refine (behind_any _ g o c e l h (by omega)).mono ?_; rintro e1 w ⟨rfl, rfl⟩)
          go_ret2
          exact ⟨ret_two (by rw [(okP_none HZ.out).2]; rfl) (by rw [(okP_none HZ.out).1]), rfl⟩
        · have h3' : ¬ (512 : Int) < (beh l e : Nat) := by omega
          have HK : Hid (N - j = k + 1) := hk
          clear hk
          go_wp2_with (go_at_call 43; refine (behind_any _ g o c e l h (by omega)).mono ?_; rintro e1 w ⟨rfl, rfl⟩)
          go_round
          case measure => simp [intOf]; omega
          refine ⟨j + 1, beh l e, cs ++ [(l.drop (e + 2)).take (num2 l e)], by omega, by unfold beh; omega, by omega, by go_num, rfl, ?_, ?_⟩
          · rw [HC.out, HK.out, show N - (j + 1) = k by have := HK.out; omega]
            conv => lhs; unfold cellsAt
            rw [if_neg (by rw [h.len]; exact h2), if_neg (by rw [h.len]; exact h3), Option.map_map]
            congr 1
            funext x
            simp
          · rw [elen_append, elen_one, List.length_take, List.length_drop, h.len]
            have := HE.out
            unfold beh at h3 ⊢
            omega
    · obtain rfl : j = N := by omega
      have HC2 : Hid (pageOf l = (cellsAt l 0 e).map (cs ++ ·)) := by
        show pageOf l = _
        rw [HP.out, HC.out, Nat.sub_self]
      have he' : (e : Int) ≤ 512 := by omega
      have he'' : (e : Int) ≤ c := by omega
      have hdl : (l.drop e).length = 512 - e := by rw [List.length_drop, h.len]
      by_cases hec : e = c
      · have HZ : Hid (pageOf l = some cs) := by
          show pageOf l = some cs
          have h0 : (l.drop e) = [] := List.eq_nil_of_length_eq_zero (by rw [hdl]; have := h.cap; omega)
          rw [HC2.out]
          unfold cellsAt
          rw [h0]
          simp
        have he2 : (e : Int) = 512 := by have := h.cap; omega
        have HE2 : Hid (e = 6 + elen cs) := HE
        clear HE HC2 HC hdl
        subst hec
        go_wp2
        go_loop [33] (fun i => i = .int .i64 0) (fun _ => 0)
        case atStart => rfl
        case round =>
          subst hrel
          have h00 : (512 : Int) - e = 0 := by omega
          go_wp2
          go_ret2
          exact ⟨ret_two (by rw [(okP_some HZ.out).2, ← HE2.out]; omega) (by rw [(okP_some HZ.out).1]), rfl⟩
      · have hec' : ¬ (e : Int) = c := by omega
        have hec2 : ¬ (c : Int) = e := by omega
        have hlen : (0 : Int) ≤ 512 - e := by omega
        go_wp2
        go_loop [33] (fun i => ∃ k : Nat, k ≤ 512 - e ∧ i = .int .i64 k ∧ (((l.drop e).take k).all (· == 0)) = true) (fun i => 512 - e - (intOf i).toNat)
        case atStart => exact ⟨0, by omega, rfl, by simp⟩
        case round =>
          obtain ⟨k, hk, rfl, hz⟩ := hrel
          have HZ : Hid ((((l.drop e).take k).all (· == 0)) = true) := hz
          clear hz
          by_cases hkl : k < 512 - e
          · have hkl' : (k : Int) < 512 - e := by omega
            have q2 := h.cell (e + k) (by omega)
            rw [← Nat.add_assoc] at q2
            have hb : byteAt l (e + k) = (l.drop e)[k]'(by rw [hdl]; exact hkl) := by
              rw [byteAt_lt (by rw [h.len]; omega)]; simp
            by_cases hb0 : byteAt l (e + k) = 0
            · have hx : ((byteAt l (e + k)).toNat : Int) = 0 := by rw [hb0]; rfl
              rw [hx] at q2
              have HB : Hid ((l.drop e)[k]'(by rw [hdl]; exact hkl) = 0) := hb.symm.trans hb0
              clear hb hb0 hx
              go_wp2
              refine ⟨⟨k + 1, by omega, by go_num, ?_⟩, by simp [intOf]; omega⟩
              rw [List.take_succ_eq_append_getElem (by rw [hdl]; exact hkl), List.all_append, HZ.out, HB.out]
              rfl
            · have hx : (((byteAt l (e + k)).toNat : Int) != 0) = true := by
                simp only [bne_iff_ne, ne_eq]
                intro h0
                exact hb0 (UInt8.toNat_inj.1 (by simpa using h0))
              have HN0 : Hid (pageOf l = none) := by
                show pageOf l = none
                rw [HC2.out]
                unfold cellsAt
                rw [if_neg]
                · rfl
                · intro ha
                  rw [List.all_eq_true] at ha
                  have := ha ((l.drop e)[k]'(by rw [hdl]; exact hkl)) (List.getElem_mem _)
                  rw [← hb] at this
                  exact hb0 (by simpa using this)
              clear hb hb0
              obtain ⟨x, HX⟩ : ∃ x : Int, Hid (((byteAt l (e + k)).toNat : Int) = x) := ⟨_, rfl⟩
              rw [HX.out] at q2 hx
              go_wp2
              go_ret2
              exact ⟨ret_two (by rw [(okP_none HN0.out).2]; rfl) (by rw [(okP_none HN0.out).1]), rfl⟩
          · obtain rfl : k = 512 - e := by omega
            have HS : Hid (pageOf l = some cs) := by
              show pageOf l = some cs
              have hz := HZ.out
              rw [List.take_of_length_le (by rw [hdl]; omega)] at hz
              rw [HC2.out]
              unfold cellsAt
              rw [if_pos hz]
              simp
            have hn0 : ¬ ((512 - e : Nat) : Int) < 512 - e := by omega
            go_wp2
            go_ret2
            exact ⟨ret_two (by rw [(okP_some HS.out).2, ← HE.out]) (by rw [(okP_some HS.out).1]), rfl⟩
end Go.Proofs.Ytlfpoeimgoikkaa
