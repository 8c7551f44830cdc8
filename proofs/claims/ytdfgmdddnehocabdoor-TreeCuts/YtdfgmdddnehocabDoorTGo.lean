/-
  Go: every axis but siblings.
-/
import Derived.Test.YtdfgmdddnehocabDoorTSib
import Derived.Test.YtdfgmdddnehocabDoorTAwake
namespace Go.Proofs.YtdfgmdddnehocabDoor
open Go.RowKit Go.Maps Go.Lib

/-- What is at hand wherever a place of a right row is. -/
structure At (w : World) (b off c : Nat) (t : List Nd) (k : Nat) : Prop where
  has : ∀ w', Fr [] w w' → Calls Tryd.prog 17 #[.slice (some ⟨b, off, none⟩) t.length c, .int .i64 (k : Int)] w' fun e w'' => e = .returned (.bool true) ∧ Fr [] w' w''
  nodes : NodesIn w b off t
  lt : k < t.length
  len : t.length ≤ 16384
  good : Good t
  blk : b < w.heap.size
theorem At.mk' {w : World} (L : LaidW w) {b off c : Nat} {t : List Nd} (hI : NodesIn w b off t) (hS : Sane t) {k : Nat} (hh : hasB t k = true) : At w b off c t k := by
  have h := hh
  unfold hasB at h
  rw [Bool.and_eq_true, decide_eq_true_eq] at h
  refine ⟨fun w' f => ?_, hI, by omega, ok_len h.2, ok_good h.2, block_lt_of_cell (hI k (by omega)).1⟩
  have := has_any w' (L.kept f) (some ⟨b, off, none⟩) c t.length t rfl (hI.kept f (by simp)).at hS k
  rw [hh] at this
  exact this
theorem At.kept {w w' : World} {b off c : Nat} {t : List Nd} {k : Nat} (h : At w b off c t k) (f : Fr [] w w') : At w' b off c t k :=
  ⟨fun w2 f2 => h.has w2 (f.trans f2), h.nodes.kept f (by simp), h.lt, h.len, h.good, Nat.lt_of_lt_of_le h.blk f.size⟩

theorem Kids_at (w : World) (b off c : Nat) (t : List Nd) (k : Nat) (A : At w b off c t k) :
    Calls Tryd.prog 12 #[.slice (some ⟨b, off, none⟩) t.length c, .int .i64 (k : Int)] w fun e w' => (∃ v, e = .returned v ∧ Ints w w' v (kidsL t k)) ∧ Fr [] w w' := by
  have HA := Hid.mk A
  clear A
  go_enter Tryd.func12, Tryd.ntmps12
  go_wp2_with (first
    | (go_at_call 17; refine (HA.out.has _ (Fr.refl _ _)).mono ?_; rintro e w5 ⟨rfl, f5⟩)
    | (go_at_call 24; refine (kids_mk _ _ _ _ _).mono ?_; rintro e w6 ⟨Ba, Bt, rfl, qa, qt, f6, g1, g2, g3, g4⟩; have A6 := HA.out.kept (f5.trans f6))
    | (go_at_call 22; refine (collect_in 36 _ enter_kids [Ba, Bt, b] (fun ys => ys = kidsL t k) t.length A6.len _ (by have := A6.blk; simp; omega) (kids_stops 1 (by omega) Ba Bt b off c t A6.len k (by omega) (by have := A6.lt; omega) _ qa qt A6.nodes g3 g4 A6.blk)).mono ?_; rintro e w7 ⟨v, xs, rfl, rfl, hv, f7⟩))
  go_ret
  exact ⟨⟨v, rfl, hv.from (f5.trans f6)⟩, (f5.trans f6).trans f7⟩

theorem ints_one {w0 w : World} (f : Fr [] w0 w) (k : Nat) : Ints w0 (w.alloc (.cells #[encI k] 3)) (.slice (some ⟨w.heap.size, 0, none⟩) 1 1) [k] :=
  ⟨rfl, Or.inr ⟨w.heap.size, 1, #[encI k], rfl, f.size, heap_alloc_new _ _, Nat.le_refl _, by unfold maxLen; omega, rfl, rfl⟩⟩
def attrEnds (t : List Nd) (k : Nat) : Nat := attrEnd t k (t.length - (k + 1)) (k + 1)
theorem attrEnds_is {t : List Nd} {k : Nat} (hk : k < t.length) : AttrIs t k (attrEnds t k) := by
  obtain ⟨h1, h2, h3, h4⟩ := attrEnd_spec t k (t.length - (k + 1)) (k + 1)
  have : attrEnds t k = attrEnd t k (t.length - (k + 1)) (k + 1) := rfl
  rw [← this] at h1 h2 h3 h4
  exact ⟨by omega, by omega, fun j g1 g2 => h3 j (by omega) g2, fun g => h4 (by omega)⟩

theorem Attrs_at (w : World) (b off c : Nat) (t : List Nd) (k : Nat) (A : At w b off c t k) :
    Calls Tryd.prog 11 #[.slice (some ⟨b, off, none⟩) t.length c, .int .i64 (k : Int)] w fun e w' => (∃ v, e = .returned v ∧ Ints w w' v (attrsL k (attrEnds t k))) ∧ Fr [] w w' := by
  have HA := Hid.mk A
  clear A
  go_enter Tryd.func11, Tryd.ntmps11
  go_wp2_with (first
    | (go_at_call 17; refine (HA.out.has _ (Fr.refl _ _)).mono ?_; rintro e w5 ⟨rfl, f5⟩)
    | (go_at_call 23; refine (attributes_mk _ _ _ _ _).mono ?_; rintro e w6 ⟨Ba, Bt, rfl, qa, qt, f6, g1, g2, g3, g4⟩; have A6 := HA.out.kept (f5.trans f6))
    | (go_at_call 22; refine (collect_in 35 _ enter_attrs [Ba, Bt, b] (fun ys => ys = attrsL k (attrEnds t k)) t.length A6.len _ (by have := A6.blk; simp; omega) (attrs_stops 1 (by omega) Ba Bt b off c t A6.len k _ (attrEnds_is A6.lt) _ qa qt A6.nodes g3 g4 A6.blk)).mono ?_; rintro e w7 ⟨v, xs, rfl, rfl, hv, f7⟩))
  go_ret
  exact ⟨⟨v, rfl, hv.from (f5.trans f6)⟩, (f5.trans f6).trans f7⟩

theorem Go_child (w : World) (b off c : Nat) (t : List Nd) (k : Nat) (A : At w b off c t k) :
    Calls Tryd.prog 14 #[.slice (some ⟨b, off, none⟩) t.length c, .int .i64 (k : Int), .int .u8 1] w fun e w' => (∃ v, e = .returned v ∧ Ints w w' v (kidsL t k)) ∧ Fr [] w w' := by
  have HA := Hid.mk A
  clear A
  go_enter Tryd.func14, Tryd.ntmps14
  go_wp2_with (first
    | (go_at_call 17; refine (HA.out.has _ (Fr.refl _ _)).mono ?_; rintro e w5 ⟨rfl, f5⟩)
    | (go_at_call 24; refine (kids_mk _ _ _ _ _).mono ?_; rintro e w6 ⟨Ba, Bt, rfl, qa, qt, f6, g1, g2, g3, g4⟩; have A6 := HA.out.kept (f5.trans f6))
    | (go_at_call 22; refine (collect_in 36 _ enter_kids [Ba, Bt, b] (fun ys => ys = kidsL t k) t.length A6.len _ (by have := A6.blk; simp; omega) (kids_stops 1 (by omega) Ba Bt b off c t A6.len k (by omega) (by have := A6.lt; omega) _ qa qt A6.nodes g3 g4 A6.blk)).mono ?_; rintro e w7 ⟨v, xs, rfl, rfl, hv, f7⟩))
  go_ret
  exact ⟨⟨v, rfl, hv.from (f5.trans f6)⟩, (f5.trans f6).trans f7⟩
theorem Go_attr (w : World) (b off c : Nat) (t : List Nd) (k : Nat) (A : At w b off c t k) :
    Calls Tryd.prog 14 #[.slice (some ⟨b, off, none⟩) t.length c, .int .i64 (k : Int), .int .u8 9] w fun e w' => (∃ v, e = .returned v ∧ Ints w w' v (attrsL k (attrEnds t k))) ∧ Fr [] w w' := by
  have HA := Hid.mk A
  clear A
  go_enter Tryd.func14, Tryd.ntmps14
  go_wp2_with (first
    | (go_at_call 17; refine (HA.out.has _ (Fr.refl _ _)).mono ?_; rintro e w5 ⟨rfl, f5⟩)
    | (go_at_call 23; refine (attributes_mk _ _ _ _ _).mono ?_; rintro e w6 ⟨Ba, Bt, rfl, qa, qt, f6, g1, g2, g3, g4⟩; have A6 := HA.out.kept (f5.trans f6))
    | (go_at_call 22; refine (collect_in 35 _ enter_attrs [Ba, Bt, b] (fun ys => ys = attrsL k (attrEnds t k)) t.length A6.len _ (by have := A6.blk; simp; omega) (attrs_stops 1 (by omega) Ba Bt b off c t A6.len k _ (attrEnds_is A6.lt) _ qa qt A6.nodes g3 g4 A6.blk)).mono ?_; rintro e w7 ⟨v, xs, rfl, rfl, hv, f7⟩))
  go_ret
  exact ⟨⟨v, rfl, hv.from (f5.trans f6)⟩, (f5.trans f6).trans f7⟩
theorem Go_self (w : World) (b off c : Nat) (t : List Nd) (k : Nat) (A : At w b off c t k) :
    Calls Tryd.prog 14 #[.slice (some ⟨b, off, none⟩) t.length c, .int .i64 (k : Int), .int .u8 10] w fun e w' => (∃ v, e = .returned v ∧ Ints w w' v [k]) ∧ Fr [] w w' := by
  have HA := Hid.mk A
  clear A
  go_enter Tryd.func14, Tryd.ntmps14
  go_wp2_with (go_at_call 17; refine (HA.out.has _ (Fr.refl _ _)).mono ?_; rintro e w5 ⟨rfl, f5⟩)
  go_ret
  exact ⟨⟨_, rfl, ints_one f5 k⟩, f5.alloc _⟩
theorem Go_anc (w : World) (b off c : Nat) (t : List Nd) (k : Nat) (A : At w b off c t k) :
    Calls Tryd.prog 14 #[.slice (some ⟨b, off, none⟩) t.length c, .int .i64 (k : Int), .int .u8 4] w fun e w' => (∃ v, e = .returned v ∧ Ints w w' v (anc t k)) ∧ Fr [] w w' := by
  have HA := Hid.mk A
  clear A
  go_enter Tryd.func14, Tryd.ntmps14
  go_wp2_with (first
    | (go_at_call 17; refine (HA.out.has _ (Fr.refl _ _)).mono ?_; rintro e w5 ⟨rfl, f5⟩)
    | (go_at_call 25; refine (ancestors_any _ b off c t (HA.out.nodes.kept f5 (by simp)) HA.out.len k HA.out.lt (fun j hj => (HA.out.good j (by have := HA.out.lt; omega)).1)).mono ?_; rintro e w7 ⟨⟨v, rfl, hv⟩, f7⟩))
  go_ret
  exact ⟨⟨v, rfl, hv.from f5⟩, f5.trans f7⟩
theorem Go_prec (w : World) (b off c : Nat) (t : List Nd) (k : Nat) (A : At w b off c t k) :
    Calls Tryd.prog 14 #[.slice (some ⟨b, off, none⟩) t.length c, .int .i64 (k : Int), .int .u8 8] w fun e w' => (∃ v, e = .returned v ∧ Ints w w' v (prec t k)) ∧ Fr [] w w' := by
  have HA := Hid.mk A
  clear A
  go_enter Tryd.func14, Tryd.ntmps14
  go_wp2_with (first
    | (go_at_call 17; refine (HA.out.has _ (Fr.refl _ _)).mono ?_; rintro e w5 ⟨rfl, f5⟩)
    | (go_at_call 29; refine (preceding_any _ b off c t (HA.out.nodes.kept f5 (by simp)) HA.out.len k HA.out.lt (fun j hj => (HA.out.good j (by have := HA.out.lt; omega)).1)).mono ?_; rintro e w7 ⟨⟨v, rfl, hv⟩, f7⟩))
  go_ret
  exact ⟨⟨v, rfl, hv.from f5⟩, f5.trans f7⟩
theorem Go_desc (w : World) (b off c : Nat) (t : List Nd) (k : Nat) (A : At w b off c t k) :
    Calls Tryd.prog 14 #[.slice (some ⟨b, off, none⟩) t.length c, .int .i64 (k : Int), .int .u8 2] w fun e w' => (∃ v, e = .returned v ∧ Ints w w' v (str t (k + 1) (endOf t k))) ∧ Fr [] w w' := by
  have hEl := end_len t k A.lt
  have hEg := (endOf_is (t := t) (k := (k : Int)) (by omega) (by have := A.lt; omega)).gt
  obtain ⟨E, hE⟩ : ∃ E, endOf t k = E := ⟨_, rfl⟩
  rw [hE] at hEl hEg ⊢
  have HE := Hid.mk hE
  have HA := Hid.mk A
  have hk2 : (k : Int) ≤ 16384 := by have h1 := A.lt; have h2 := A.len; omega
  clear A hE
  go_enter Tryd.func14, Tryd.ntmps14
  go_wp2_with (first
    | (go_at_call 17; refine (HA.out.has _ (Fr.refl _ _)).mono ?_; rintro e w5 ⟨rfl, f5⟩)
    | (go_at_call 19; refine (end_any _ b off c t (HA.out.nodes.kept f5 (by simp)) HA.out.len k HA.out.lt).mono ?_; rw [HE.out]; rintro e w6 ⟨rfl, f6⟩)
    | (go_at_call 26; refine (stretch_any _ b off c t (HA.out.nodes.kept (f5.trans f6) (by simp)) HA.out.len (k + 1) E hEl (by omega)).mono ?_; rintro e w7 ⟨⟨v, rfl, hv⟩, f7⟩))
  go_ret
  exact ⟨⟨v, rfl, hv.from (f5.trans f6)⟩, (f5.trans f6).trans f7⟩
theorem Go_foll' (w : World) (b off c : Nat) (t : List Nd) (k : Nat) (A : At w b off c t k) :
    Calls Tryd.prog 14 #[.slice (some ⟨b, off, none⟩) t.length c, .int .i64 (k : Int), .int .u8 7] w fun e w' => (∃ v, e = .returned v ∧ Ints w w' v (str t (endOf t k) t.length)) ∧ Fr [] w w' := by
  have hEl := end_len t k A.lt
  obtain ⟨E, hE⟩ : ∃ E, endOf t k = E := ⟨_, rfl⟩
  rw [hE] at hEl ⊢
  have HE := Hid.mk hE
  have HA := Hid.mk A
  clear A hE
  go_enter Tryd.func14, Tryd.ntmps14
  go_wp2_with (first
    | (go_at_call 17; refine (HA.out.has _ (Fr.refl _ _)).mono ?_; rintro e w5 ⟨rfl, f5⟩)
    | (go_at_call 19; refine (end_any _ b off c t (HA.out.nodes.kept f5 (by simp)) HA.out.len k HA.out.lt).mono ?_; rw [HE.out]; rintro e w6 ⟨rfl, f6⟩)
    | (go_at_call 26; refine (stretch_any _ b off c t (HA.out.nodes.kept (f5.trans f6) (by simp)) HA.out.len E t.length (Nat.le_refl _) hEl).mono ?_; rintro e w7 ⟨⟨v, rfl, hv⟩, f7⟩))
  go_ret
  exact ⟨⟨v, rfl, hv.from (f5.trans f6)⟩, (f5.trans f6).trans f7⟩
theorem Go_parent (w : World) (b off c : Nat) (t : List Nd) (k : Nat) (A : At w b off c t k) :
    Calls Tryd.prog 14 #[.slice (some ⟨b, off, none⟩) t.length c, .int .i64 (k : Int), .int .u8 3] w fun e w' => (∃ v, e = .returned v ∧ Ints w w' v ((anc t k).take 1)) ∧ Fr [] w w' := by
  have hp := (A.good k A.lt).1
  have hk' : (k : Int) < (t.length : Int) := by have := A.lt; omega
  have hk0 : (0 : Int) ≤ (k : Int) := by omega
  have h1 : (anc t k).take 1 = if 0 ≤ par t k then [(par t k).toNat] else [] := by
    rw [anc_eq hp.2.1]
    unfold ancI
    split <;> rfl
  rw [h1]
  obtain ⟨P0, hP⟩ : ∃ P0, par t k = P0 := ⟨_, rfl⟩
  rw [hP]
  have HP := Hid.mk hP
  have HA := Hid.mk A
  clear A hp h1 hP
  by_cases h0 : P0 < 0
  · have h0' : ¬ (0 : Int) ≤ P0 := by omega
    rw [if_neg h0']
    go_enter Tryd.func14, Tryd.ntmps14
    go_wp2_with (go_at_call 17; refine (HA.out.has _ (Fr.refl _ _)).mono ?_; rintro e w5 ⟨rfl, f5⟩; obtain ⟨c0, c1, c2, c3⟩ := HA.out.nodes.kept f5 (by simp) k HA.out.lt; rw [HP.out] at c3; clear c0 c1 c2)
    go_ret
    exact ⟨⟨_, rfl, Ints.nil _ _⟩, f5⟩
  · rw [if_pos (by omega)]
    obtain ⟨m, rfl⟩ : ∃ m : Nat, P0 = (m : Int) := ⟨P0.toNat, by omega⟩
    rw [Int.toNat_natCast]
    go_enter Tryd.func14, Tryd.ntmps14
    go_wp2_with (go_at_call 17; refine (HA.out.has _ (Fr.refl _ _)).mono ?_; rintro e w5 ⟨rfl, f5⟩; obtain ⟨c0, c1, c2, c3⟩ := HA.out.nodes.kept f5 (by simp) k HA.out.lt; rw [HP.out] at c3; clear c0 c1 c2)
    go_ret
    exact ⟨⟨_, rfl, ints_one f5 m⟩, f5.alloc _⟩
end Go.Proofs.YtdfgmdddnehocabDoor
