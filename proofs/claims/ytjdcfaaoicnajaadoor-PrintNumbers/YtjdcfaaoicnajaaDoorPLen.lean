/-
  How long what is printed of a right row is; Print, Node.
-/
import Derived.Test.YtjdcfaaoicnajaaDoorPPrint
namespace Go.Proofs.YtjdcfaaoicnajaaDoor
open Go.RowKit Go.Maps Go.Lib

theorem nm_size {s : ByteArray} (h : nameB (bl s) = true) : s.size ≤ 100 := by
  unfold nameB at h
  rw [Bool.and_eq_true, decide_eq_true_eq, bl_length] at h
  exact h.1
theorem good_name {t : List Nd} (G : Good t) {x : Nat} (hx : x < t.length) : (nam t x).size ≤ 100 := by
  rcases (G x hx).2.2 with f | f | f | f | f | f
  · rw [f.2.2.1]; omega
  · exact nm_size f.2.2.1
  · exact nm_size f.2.2.1
  · rw [f.2.2.1]; omega
  · rw [f.2.2.1]; omega
  · exact nm_size f.2.2.1.1
theorem leaf_len (K : Nat) (NM VL : ByteArray) (h1 : NM.size ≤ 100) (h2 : VL.size ≤ 65536) : (leafO K NM VL).length ≤ 400000 := by
  have a1 := quoV_len VL
  have a2 := escT_len VL
  unfold leafO
  split
  · simp only [List.length_append, List.length_cons, List.length_nil, bl_length]; omega
  split
  · omega
  split
  · simp only [List.length_append, List.length_cons, List.length_nil, bl_length]; omega
  split
  · split <;> simp only [List.length_append, List.length_cons, List.length_nil, bl_length] <;> omega
  · simp
theorem run_len {t : List Nd} (G : Good t) {f : Nat → List UInt8} {k : Nat} (hk : k < t.length) (hf : ∀ y, k < y → y < endOf t k → par t y = (k : Int) → (f y).length ≤ (endOf t y - y) * 500000) :
    ∀ m y, endOf t k - y ≤ m → k < y → y ≤ endOf t k → (y = endOf t k ∨ par t y = (k : Int)) → (runO f t k y).length ≤ (endOf t k - y) * 500000
  | 0, y, hm, hy, hle, _ => by
    have e : y = endOf t k := by omega
    have E := endOf_is (t := t) (k := (k : Int)) (by omega) (by omega)
    rw [runO_end (fun ⟨h1, h2⟩ => by rw [e] at h1 h2; have := E.stop h1; omega)]
    simp
  | m + 1, y, hm, hy, hle, hp => by
    have E := endOf_is (t := t) (k := (k : Int)) (by omega) (by omega)
    by_cases e : y = endOf t k
    · rw [runO_end (fun ⟨h1, h2⟩ => by rw [e] at h1 h2; have := E.stop h1; omega)]
      simp
    · have hp' := hp.resolve_left e
      have hlt : y < endOf t k := by omega
      obtain ⟨q1, q2, q3, _⟩ := child_next G.ords hk hy hlt hp'
      have ih := run_len G hk hf m (endOf t y) (by omega) (by omega) q2 q3
      have h1 := hf y hy hlt hp'
      rw [runO_step (by have := E.le; omega) hp', List.length_append]
      have e2 : (endOf t k - y) * 500000 = (endOf t y - y) * 500000 + (endOf t k - endOf t y) * 500000 := by rw [← Nat.add_mul]; congr 1; omega
      omega
theorem att_len {t : List Nd} (G : Good t) (a : Nat) : ∀ b, b ≤ t.length → (attO t a b).length ≤ (b - a) * 500000
  | 0, _ => by unfold attO; rw [Nat.zero_sub]; simp
  | b + 1, hb => by
    rcases Nat.lt_or_ge b a with h | h
    · unfold attO
      rw [show b + 1 - a = 0 by omega]
      simp
    · have ih := att_len G a b (by omega)
      rw [attO_step h, List.length_append]
      have h1 := leaf_len (knd t b) (nam t b) (vlu t b) (good_name G (by omega)) (G b (by omega)).2.1.2
      rw [show b + 1 - a = (b - a) + 1 by omega, Nat.add_mul]
      simp only [List.length_append, List.length_cons, List.length_nil]
      omega
theorem out_len {t : List Nd} (G : Good t) : ∀ n x, x < t.length → t.length - x ≤ n → (outN t n x).length ≤ (endOf t x - x) * 500000
  | 0, x, hx, hn => by omega
  | n + 1, x, hx, hn => by
    have E := endOf_is (t := t) (k := (x : Int)) (by omega) (by omega)
    have hg := E.gt
    have hle := E.le
    have hf : ∀ y, x < y → y < endOf t x → par t y = (x : Int) → (outN t n y).length ≤ (endOf t y - y) * 500000 := fun y h1 h2 _ => out_len G n y (by omega) (by omega)
    rw [outN]
    split
    · obtain ⟨q1, q2⟩ := first_kid G.ords hx
      have := run_len G hx hf _ (x + 1) (Nat.le_refl _) (by omega) q1 q2
      exact Nat.le_trans this (Nat.mul_le_mul_right _ (by omega))
    split
    · obtain ⟨q1, q2⟩ := att_end G hx
      have A := attE_is hx
      have hgt := A.gt
      have h1 := att_len G (x + 1) (attE t x) A.le
      have h2 := run_len G hx hf _ (attE t x) (Nat.le_refl _) hgt q1 q2
      have h3 := good_name G hx
      have e2 : (endOf t x - x) * 500000 = 500000 + (attE t x - (x + 1)) * 500000 + (endOf t x - attE t x) * 500000 := by
        rw [show endOf t x - x = 1 + (attE t x - (x + 1)) + (endOf t x - attE t x) by omega, Nat.add_mul, Nat.add_mul, Nat.one_mul]
      unfold elO
      split
      · simp only [List.length_append, List.length_cons, List.length_nil, bl_length]; omega
      · simp only [List.length_append, List.length_cons, List.length_nil, bl_length]; omega
    · have h1 := leaf_len (knd t x) (nam t x) (vlu t x) (good_name G hx) (G x hx).2.1.2
      have : 1 * 500000 ≤ (endOf t x - x) * 500000 := Nat.mul_le_mul_right _ (by omega)
      omega
theorem out_most {t : List Nd} (G : Good t) (hl : t.length ≤ 16384) {x : Nat} (hx : x < t.length) : (outN t t.length x).length ≤ 140737488355328 := by
  have h1 := out_len G t.length x hx (by omega)
  have E := (endOf_is (t := t) (k := (x : Int)) (by omega) (by omega)).le
  have : (endOf t x - x) * 500000 ≤ 16384 * 500000 := Nat.mul_le_mul_right _ (by omega)
  omega
theorem judged_ok {t : List Nd} {r : Bool} (h : judged t r = 0) : t.length ≤ 16384 ∧ goodB t t.length = true ∧ r = true := by
  unfold judged at h
  split at h
  · cases h
  split at h
  · cases h
  · rename_i h1 h2
    cases r
    · rw [Bool.and_false] at h2; exact absurd rfl h2
    · rw [Bool.and_true] at h2
      exact ⟨by omega, by cases hq : goodB t t.length <;> simp_all, rfl⟩
theorem one_ok {t : List Nd} (h : judged t (oneB t) = 0) : Good t ∧ t.length ≤ 16384 ∧ 0 < t.length := by
  obtain ⟨h1, h2, h3⟩ := judged_ok h
  have hk : knd t 0 = 1 := by
    unfold oneB at h3
    rw [Bool.and_eq_true, decide_eq_true_eq] at h3
    exact h3.1
  have hT : okT t = true := by unfold okT; rw [if_pos hk, h]; rfl
  refine ⟨ok_good hT, h1, ?_⟩
  rcases Nat.eq_zero_or_pos t.length with e | e
  · rw [List.length_eq_zero_iff.1 e] at hk
    cases hk
  · exact e
theorem no_ok {t : List Nd} (h : judged t (noB t) = 0) : Good t ∧ t.length ≤ 16384 := by
  obtain ⟨h1, h2, h3⟩ := judged_ok h
  have hk : knd t 0 ≠ 1 := by
    unfold noB at h3
    exact of_decide_eq_true h3
  have hT : okT t = true := by unfold okT; rw [if_neg hk, h]; rfl
  exact ⟨ok_good hT, h1⟩
set_option maxHeartbeats 2000000 in
theorem written_any (w : World) (b0 off c : Nat) (t : List Nd) (hN : NodesIn w b0 off t) (G : Good t) (hl : t.length ≤ 16384) (x : Nat) (hx : x < t.length) :
    Calls Tryd.prog 21 #[.slice (some ⟨b0, off, none⟩) t.length c, .int .i64 (x : Int)] w fun e w' => e = .returned (.string (mkS (outN t t.length x))) ∧ Fr [] w w' := by
  have hb := out_most G hl hx
  have cT := Hid.mk (node_any G hl t.length w (w.alloc (.cells #[.pointer none, .slice none 0 0] 47)) w.heap.size [] [] x (WAt.new (Fr.refl [] w)) hN hx (by omega) (by simpa using hb) (c := c))
  have HB := Hid.mk hb
  clear hb hN G
  go_enter Tryd.func21, Tryd.ntmps21
  go_wp2_with fail
  refine cT.out.mono ?_
  rintro e w5 ⟨rfl, a5, k5⟩
  have hl5 : w.heap.size < w5.heap.size := by obtain ⟨p, ad, n, cap, h⟩ := a5; exact h.lt
  have cS := Hid.mk (wstring_any w w5 w.heap.size [] _ a5 (by simpa using HB.out))
  rw [List.nil_append] at cS
  clear a5 k5 cT
  generalize w.heap.size = bb at cS hl5
  go_wp2_with fail
  refine cS.out.mono ?_
  rintro e w6 ⟨rfl, f6⟩
  go_wp2_with fail
  go_ret
  exact ⟨rfl, f6⟩
def printL (t : List Nd) : List UInt8 := if judged t (oneB t) = 0 then outN t t.length 0 else []
def printE (t : List Nd) : Int := if judged t (oneB t) = 0 then 0 else 4
set_option maxHeartbeats 2000000 in
theorem Print_any (w : World) (L : LaidW w) (ad : Option Addr) (c n : Nat) (t : List Nd) (hn : t.length = n) (hN : NodesAt w ad t) (hS : Sane t) :
    Calls Tryd.prog 9 #[.slice ad n c] w fun e w' => e = .returned (.tuple #[.string (mkS (printL t)), .int .i64 (printE t)]) ∧ Fr [] w w' := by
  have cC := Hid.mk (check_any w L ad c n t hn hN hS)
  unfold printL printE
  by_cases hj : judged t (oneB t) = 0
  · rw [if_pos hj, if_pos hj]
    obtain ⟨G, hl, h0⟩ := one_ok hj
    subst hn
    obtain ⟨b0, off, rfl, hI⟩ := hN.in h0
    have cW := Hid.mk (fun w' (f : Fr [] w w') => written_any w' b0 off c t (hI.kept f (by simp)) G hl 0 h0)
    rw [hj] at cC
    clear hN hS L hI G hj
    go_enter Tryd.func9, Tryd.ntmps9
    go_wp2_with fail
    refine cC.out.mono ?_
    rintro e w5 ⟨rfl, f5⟩
    go_wp2_with fail
    refine (cW.out _ f5).mono ?_
    rintro e w6 ⟨rfl, f6⟩
    go_wp2_with fail
    go_ret2
    exact ⟨rfl, f5.trans f6⟩
  · rw [if_neg hj, if_neg hj]
    have hb : (((judged t (oneB t) : Nat) : Int) != 0) = true := by rw [bne_iff_ne]; omega
    generalize judged t (oneB t) = J at cC hb
    clear hN hS L hj
    go_enter Tryd.func9, Tryd.ntmps9
    go_wp2_with fail
    refine cC.out.mono ?_
    rintro e w5 ⟨rfl, f5⟩
    go_wp2_with fail
    go_ret2
    exact ⟨rfl, f5⟩
/-- May a node be told of it? -/
def nodeOk (t : List Nd) : Bool := decide (judged t (oneB t) = 0) || decide (judged t (noB t) = 0)
theorem nodeOk_good {t : List Nd} (h : nodeOk t = true) : Good t ∧ t.length ≤ 16384 := by
  unfold nodeOk at h
  rw [Bool.or_eq_true, decide_eq_true_eq, decide_eq_true_eq] at h
  rcases h with h | h
  · exact ⟨(one_ok h).1, (one_ok h).2.1⟩
  · exact no_ok h
def nodeL (t : List Nd) (k : Int) : List UInt8 := if nodeOk t = true then (if 0 ≤ k ∧ k < (t.length : Int) then outN t t.length k.toNat else []) else []
def nodeE (t : List Nd) (k : Int) : Int := if nodeOk t = true then (if 0 ≤ k ∧ k < (t.length : Int) then 0 else 2) else 4
set_option maxHeartbeats 4000000 in
theorem Node_any (w : World) (L : LaidW w) (ad : Option Addr) (c n : Nat) (t : List Nd) (hn : t.length = n) (hN : NodesAt w ad t) (hS : Sane t) (k : Int) :
    Calls Tryd.prog 10 #[.slice ad n c, .int .i64 k] w fun e w' => e = .returned (.tuple #[.string (mkS (nodeL t k)), .int .i64 (nodeE t k)]) ∧ Fr [] w w' := by
  have cC := Hid.mk (check_any w L ad c n t hn hN hS)
  have cF := Hid.mk (fun w' (f : Fr [] w w') => frag_any w' (L.kept f) ad c n t hn (hN.kept f) hS)
  have cW := Hid.mk (fun (ho : nodeOk t = true) (hk : 0 ≤ k ∧ k < (t.length : Int)) => (show ∀ w', Fr [] w w' → Calls Tryd.prog 21 #[.slice ad n c, .int .i64 k] w' fun e w'' => e = .returned (.string (mkS (outN t t.length k.toNat))) ∧ Fr [] w' w'' from by
    intro w' f
    obtain ⟨G, hl⟩ := nodeOk_good ho
    subst hn
    obtain ⟨b0, off, rfl, hI⟩ := hN.in (by omega)
    obtain ⟨m, rfl⟩ : ∃ m : Nat, k = (m : Int) := ⟨k.toNat, by omega⟩
    rw [Int.toNat_natCast]
    exact written_any w' b0 off c t (hI.kept f (by simp)) G hl m (by omega)))
  obtain ⟨J1, h1⟩ : ∃ J1, judged t (oneB t) = J1 := ⟨_, rfl⟩
  obtain ⟨J2, h2⟩ : ∃ J2, judged t (noB t) = J2 := ⟨_, rfl⟩
  have hO : nodeOk t = (decide (J1 = 0) || decide (J2 = 0)) := by unfold nodeOk; rw [h1, h2]
  unfold nodeL nodeE
  rw [h1] at cC
  rw [h2] at cF
  have hnn : (t.length : Int) = (n : Int) := by rw [hn]
  rw [hnn] at cW ⊢
  clear hN hS L h1 h2 hn hnn
  by_cases ho : nodeOk t = true
  · rw [if_pos ho, if_pos ho]
    have cW' := Hid.mk (cW.out ho)
    have hJ : J1 = 0 ∨ (J1 ≠ 0 ∧ J2 = 0) := by
      rw [hO, Bool.or_eq_true, decide_eq_true_eq, decide_eq_true_eq] at ho
      rcases ho with h | h
      · exact Or.inl h
      · by_cases e : J1 = 0
        · exact Or.inl e
        · exact Or.inr ⟨e, h⟩
    clear cW hO ho
    by_cases hk0 : k < 0
    · have d0 : decide (k < 0) = true := decide_eq_true hk0
      rw [if_neg (by omega), if_neg (by omega)]
      rcases hJ with rfl | ⟨hj, rfl⟩
      · go_enter Tryd.func10, Tryd.ntmps10
        go_wp2_with (first | (go_at_call 20; refine cC.out.mono ?_; rintro e w5 ⟨rfl, f5⟩))
        go_ret2
        exact ⟨rfl, f5⟩
      · have hb : (((J1 : Nat) : Int) != 0) = true := by rw [bne_iff_ne]; omega
        clear hj
        go_enter Tryd.func10, Tryd.ntmps10
        go_wp2_with (first | (go_at_call 20; refine cC.out.mono ?_; rintro e w5 ⟨rfl, f5⟩) | (go_at_call 22; refine (cF.out _ f5).mono ?_; rintro e w6 ⟨rfl, f6⟩))
        go_ret2
        exact ⟨rfl, f5.trans f6⟩
    · have d0 : decide (k < 0) = false := decide_eq_false hk0
      by_cases hk1 : (n : Int) ≤ k
      · rw [if_neg (by omega), if_neg (by omega)]
        rcases hJ with rfl | ⟨hj, rfl⟩
        · go_enter Tryd.func10, Tryd.ntmps10
          go_wp2_with (first | (go_at_call 20; refine cC.out.mono ?_; rintro e w5 ⟨rfl, f5⟩))
          go_ret2
          exact ⟨rfl, f5⟩
        · have hb : (((J1 : Nat) : Int) != 0) = true := by rw [bne_iff_ne]; omega
          clear hj
          go_enter Tryd.func10, Tryd.ntmps10
          go_wp2_with (first | (go_at_call 20; refine cC.out.mono ?_; rintro e w5 ⟨rfl, f5⟩) | (go_at_call 22; refine (cF.out _ f5).mono ?_; rintro e w6 ⟨rfl, f6⟩))
          go_ret2
          exact ⟨rfl, f5.trans f6⟩
      · rw [if_pos (by omega), if_pos (by omega)]
        have cX := Hid.mk (cW'.out (by omega))
        rcases hJ with rfl | ⟨hj, rfl⟩
        · go_enter Tryd.func10, Tryd.ntmps10
          go_wp2_with (first | (go_at_call 20; refine cC.out.mono ?_; rintro e w5 ⟨rfl, f5⟩) | (go_at_call 21; refine (cX.out _ f5).mono ?_; rintro e w7 ⟨rfl, f7⟩))
          go_ret2
          exact ⟨rfl, f5.trans f7⟩
        · have hb : (((J1 : Nat) : Int) != 0) = true := by rw [bne_iff_ne]; omega
          clear hj
          go_enter Tryd.func10, Tryd.ntmps10
          go_wp2_with (first | (go_at_call 20; refine cC.out.mono ?_; rintro e w5 ⟨rfl, f5⟩) | (go_at_call 22; refine (cF.out _ f5).mono ?_; rintro e w6 ⟨rfl, f6⟩; have f56 := f5.trans f6) | (go_at_call 21; refine (cX.out _ f56).mono ?_; rintro e w7 ⟨rfl, f7⟩))
          go_ret2
          exact ⟨rfl, f56.trans f7⟩
  · rw [if_neg ho, if_neg ho]
    have hJ : J1 ≠ 0 ∧ J2 ≠ 0 := by
      rw [hO, Bool.or_eq_true, decide_eq_true_eq, decide_eq_true_eq, not_or] at ho
      exact ho
    have hb : (((J1 : Nat) : Int) != 0) = true := by rw [bne_iff_ne]; omega
    have hb2 : (((J2 : Nat) : Int) != 0) = true := by rw [bne_iff_ne]; omega
    clear cW hO ho hJ
    go_enter Tryd.func10, Tryd.ntmps10
    go_wp2_with (first | (go_at_call 20; refine cC.out.mono ?_; rintro e w5 ⟨rfl, f5⟩) | (go_at_call 22; refine (cF.out _ f5).mono ?_; rintro e w6 ⟨rfl, f6⟩))
    go_ret2
    exact ⟨rfl, f5.trans f6⟩
end Go.Proofs.YtjdcfaaoicnajaaDoor
