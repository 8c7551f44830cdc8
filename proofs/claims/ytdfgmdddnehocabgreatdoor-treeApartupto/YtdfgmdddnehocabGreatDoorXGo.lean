/-
  Go: siblings; oneself and others.
-/
import Derived.Test.YtdfgmdddnehocabGreatDoorXIter
import Derived.Test.YtdfgmdddnehocabGreatDoorTAwake
import Derived.Sort.OwnSortedInts
namespace Go.Proofs.YtdfgmdddnehocabGreatDoor
open Go.RowKit Go.Maps Go.Lib

/-- What is at hand wherever a place of a right row is. -/
structure At (w : World) (b off c : Nat) (t : List Nd) (k : Nat) : Prop where
  has : ∀ w', Fr [] w w' → Calls Tryz.prog 18 #[.slice (some ⟨b, off, none⟩) t.length c, .int .i64 (k : Int)] w' fun e w'' => e = .returned (.bool true) ∧ Fr [] w' w''
  nodes : NodesIn w b off t
  lt : k < t.length
  len : t.length ≤ 16384
  good : Good t
  blk : b < w.heap.size
theorem At.mk' {w : World} (L : LaidW w) {b off c : Nat} {t : List Nd} (hI : NodesIn w b off t) (hS : Sane t) {k : Nat} (hh : hasB t k = true) : At w b off c t k := by
  have h := hh
  unfold hasB at h
  rw [Bool.and_eq_true, decide_eq_true_eq] at h
  refine ⟨fun w' f => ?_, hI, by omega, ok_len h.2, ok_good h.2, block_lt_of_cell (hI k (by omega)).1⟩
  have := has_any w' (L.kept f) (some ⟨b, off, none⟩) c t.length t rfl (hI.kept f (by simp)).at hS k
  rw [hh] at this
  exact this
theorem At.kept {w w' : World} {b off c : Nat} {t : List Nd} {k : Nat} (h : At w b off c t k) (f : Fr [] w w') : At w' b off c t k :=
  ⟨fun w2 f2 => h.has w2 (f.trans f2), h.nodes.kept f (by simp), h.lt, h.len, h.good, Nat.lt_of_lt_of_le h.blk f.size⟩

theorem Kids_at (w : World) (b off c : Nat) (t : List Nd) (k : Nat) (A : At w b off c t k) :
    Calls Tryz.prog 10 #[.slice (some ⟨b, off, none⟩) t.length c, .int .i64 (k : Int)] w fun e w' => (∃ v, e = .returned v ∧ Ints w w' v (kidsL t k)) ∧ Fr [] w w' := by
  have HA := Hid.mk A
  clear A
  go_enter Tryz.func10, Tryz.ntmps10
  go_wp2_with (first
    | (go_at_call 18; refine (HA.out.has _ (Fr.refl _ _)).mono ?_; rintro e w5 ⟨rfl, f5⟩)
    | (go_at_call 26; refine (kids_mk _ _ _ _ _).mono ?_; rintro e w6 ⟨Ba, Bt, rfl, qa, qt, f6, g1, g2, g3, g4⟩; have A6 := HA.out.kept (f5.trans f6))
    | (go_at_call 25; refine (collect_in 59 _ enter_kids [Ba, Bt, b] (fun ys => ys = kidsL t k) t.length A6.len _ (by have := A6.blk; simp; omega) (kids_stops 1 (by omega) Ba Bt b off c t A6.len k (by omega) (by have := A6.lt; omega) _ qa qt A6.nodes g3 g4 A6.blk)).mono ?_; rintro e w7 ⟨v, xs, rfl, rfl, hv, f7⟩))
  go_ret
  exact ⟨⟨v, rfl, hv.from (f5.trans f6)⟩, (f5.trans f6).trans f7⟩

theorem ints_one {w0 w : World} (f : Fr [] w0 w) (k : Nat) : Ints w0 (w.alloc (.cells #[encI k] 3)) (.slice (some ⟨w.heap.size, 0, none⟩) 1 1) [k] :=
  ⟨rfl, Or.inr ⟨w.heap.size, 1, #[encI k], rfl, f.size, heap_alloc_new _ _, Nat.le_refl _, by unfold maxLen; omega, rfl, rfl⟩⟩
def attrEnds (t : List Nd) (k : Nat) : Nat := attrEnd t k (t.length - (k + 1)) (k + 1)
theorem attrEnds_is {t : List Nd} {k : Nat} (hk : k < t.length) : AttrIs t k (attrEnds t k) := by
  obtain ⟨h1, h2, h3, h4⟩ := attrEnd_spec t k (t.length - (k + 1)) (k + 1)
  have : attrEnds t k = attrEnd t k (t.length - (k + 1)) (k + 1) := rfl
  rw [← this] at h1 h2 h3 h4
  exact ⟨by omega, by omega, fun j g1 g2 => h3 j (by omega) g2, fun g => h4 (by omega)⟩

theorem Go_child (w : World) (b off c : Nat) (t : List Nd) (k : Nat) (A : At w b off c t k) :
    Calls Tryz.prog 11 #[.slice (some ⟨b, off, none⟩) t.length c, .int .i64 (k : Int), .int .u8 1] w fun e w' => (∃ v, e = .returned v ∧ Ints w w' v (kidsL t k)) ∧ Fr [] w w' := by
  have HA := Hid.mk A
  clear A
  go_enter Tryz.func11, Tryz.ntmps11
  go_wp2_with (first
    | (go_at_call 18; refine (HA.out.has _ (Fr.refl _ _)).mono ?_; rintro e w5 ⟨rfl, f5⟩)
    | (go_at_call 26; refine (kids_mk _ _ _ _ _).mono ?_; rintro e w6 ⟨Ba, Bt, rfl, qa, qt, f6, g1, g2, g3, g4⟩; have A6 := HA.out.kept (f5.trans f6))
    | (go_at_call 25; refine (collect_in 59 _ enter_kids [Ba, Bt, b] (fun ys => ys = kidsL t k) t.length A6.len _ (by have := A6.blk; simp; omega) (kids_stops 1 (by omega) Ba Bt b off c t A6.len k (by omega) (by have := A6.lt; omega) _ qa qt A6.nodes g3 g4 A6.blk)).mono ?_; rintro e w7 ⟨v, xs, rfl, rfl, hv, f7⟩))
  go_ret
  exact ⟨⟨v, rfl, hv.from (f5.trans f6)⟩, (f5.trans f6).trans f7⟩
theorem Go_attr (w : World) (b off c : Nat) (t : List Nd) (k : Nat) (A : At w b off c t k) :
    Calls Tryz.prog 11 #[.slice (some ⟨b, off, none⟩) t.length c, .int .i64 (k : Int), .int .u8 9] w fun e w' => (∃ v, e = .returned v ∧ Ints w w' v (attrsL k (attrEnds t k))) ∧ Fr [] w w' := by
  have HA := Hid.mk A
  clear A
  go_enter Tryz.func11, Tryz.ntmps11
  go_wp2_with (first
    | (go_at_call 18; refine (HA.out.has _ (Fr.refl _ _)).mono ?_; rintro e w5 ⟨rfl, f5⟩)
    | (go_at_call 27; refine (attributes_mk _ _ _ _ _).mono ?_; rintro e w6 ⟨Ba, Bt, rfl, qa, qt, f6, g1, g2, g3, g4⟩; have A6 := HA.out.kept (f5.trans f6))
    | (go_at_call 25; refine (collect_in 60 _ enter_attrs [Ba, Bt, b] (fun ys => ys = attrsL k (attrEnds t k)) t.length A6.len _ (by have := A6.blk; simp; omega) (attrs_stops 1 (by omega) Ba Bt b off c t A6.len k _ (attrEnds_is A6.lt) _ qa qt A6.nodes g3 g4 A6.blk)).mono ?_; rintro e w7 ⟨v, xs, rfl, rfl, hv, f7⟩))
  go_ret
  exact ⟨⟨v, rfl, hv.from (f5.trans f6)⟩, (f5.trans f6).trans f7⟩
theorem Go_self (w : World) (b off c : Nat) (t : List Nd) (k : Nat) (A : At w b off c t k) :
    Calls Tryz.prog 11 #[.slice (some ⟨b, off, none⟩) t.length c, .int .i64 (k : Int), .int .u8 10] w fun e w' => (∃ v, e = .returned v ∧ Ints w w' v [k]) ∧ Fr [] w w' := by
  have HA := Hid.mk A
  clear A
  go_enter Tryz.func11, Tryz.ntmps11
  go_wp2_with (go_at_call 18; refine (HA.out.has _ (Fr.refl _ _)).mono ?_; rintro e w5 ⟨rfl, f5⟩)
  go_ret
  exact ⟨⟨_, rfl, ints_one f5 k⟩, f5.alloc _⟩
theorem Go_anc (w : World) (b off c : Nat) (t : List Nd) (k : Nat) (A : At w b off c t k) :
    Calls Tryz.prog 11 #[.slice (some ⟨b, off, none⟩) t.length c, .int .i64 (k : Int), .int .u8 4] w fun e w' => (∃ v, e = .returned v ∧ Ints w w' v (anc t k)) ∧ Fr [] w w' := by
  have HA := Hid.mk A
  clear A
  go_enter Tryz.func11, Tryz.ntmps11
  go_wp2_with (first
    | (go_at_call 18; refine (HA.out.has _ (Fr.refl _ _)).mono ?_; rintro e w5 ⟨rfl, f5⟩)
    | (go_at_call 28; refine (ancestors_any _ b off c t (HA.out.nodes.kept f5 (by simp)) HA.out.len k HA.out.lt (fun j hj => (HA.out.good j (by have := HA.out.lt; omega)).1)).mono ?_; rintro e w7 ⟨⟨v, rfl, hv⟩, f7⟩))
  go_ret
  exact ⟨⟨v, rfl, hv.from f5⟩, f5.trans f7⟩
theorem Go_prec (w : World) (b off c : Nat) (t : List Nd) (k : Nat) (A : At w b off c t k) :
    Calls Tryz.prog 11 #[.slice (some ⟨b, off, none⟩) t.length c, .int .i64 (k : Int), .int .u8 8] w fun e w' => (∃ v, e = .returned v ∧ Ints w w' v (prec t k)) ∧ Fr [] w w' := by
  have HA := Hid.mk A
  clear A
  go_enter Tryz.func11, Tryz.ntmps11
  go_wp2_with (first
    | (go_at_call 18; refine (HA.out.has _ (Fr.refl _ _)).mono ?_; rintro e w5 ⟨rfl, f5⟩)
    | (go_at_call 32; refine (preceding_any _ b off c t (HA.out.nodes.kept f5 (by simp)) HA.out.len k HA.out.lt (fun j hj => (HA.out.good j (by have := HA.out.lt; omega)).1)).mono ?_; rintro e w7 ⟨⟨v, rfl, hv⟩, f7⟩))
  go_ret
  exact ⟨⟨v, rfl, hv.from f5⟩, f5.trans f7⟩
theorem Go_desc (w : World) (b off c : Nat) (t : List Nd) (k : Nat) (A : At w b off c t k) :
    Calls Tryz.prog 11 #[.slice (some ⟨b, off, none⟩) t.length c, .int .i64 (k : Int), .int .u8 2] w fun e w' => (∃ v, e = .returned v ∧ Ints w w' v (str t (k + 1) (endOf t k))) ∧ Fr [] w w' := by
  have hEl := end_len t k A.lt
  have hEg := (endOf_is (t := t) (k := (k : Int)) (by omega) (by have := A.lt; omega)).gt
  obtain ⟨E, hE⟩ : ∃ E, endOf t k = E := ⟨_, rfl⟩
  rw [hE] at hEl hEg ⊢
  have HE := Hid.mk hE
  have HA := Hid.mk A
  have hk2 : (k : Int) ≤ 16384 := by have h1 := A.lt; have h2 := A.len; omega
  clear A hE
  go_enter Tryz.func11, Tryz.ntmps11
  go_wp2_with (first
    | (go_at_call 18; refine (HA.out.has _ (Fr.refl _ _)).mono ?_; rintro e w5 ⟨rfl, f5⟩)
    | (go_at_call 20; refine (end_any _ b off c t (HA.out.nodes.kept f5 (by simp)) HA.out.len k HA.out.lt).mono ?_; rw [HE.out]; rintro e w6 ⟨rfl, f6⟩)
    | (go_at_call 29; refine (stretch_any _ b off c t (HA.out.nodes.kept (f5.trans f6) (by simp)) HA.out.len (k + 1) E hEl (by omega)).mono ?_; rintro e w7 ⟨⟨v, rfl, hv⟩, f7⟩))
  go_ret
  exact ⟨⟨v, rfl, hv.from (f5.trans f6)⟩, (f5.trans f6).trans f7⟩
theorem Go_foll' (w : World) (b off c : Nat) (t : List Nd) (k : Nat) (A : At w b off c t k) :
    Calls Tryz.prog 11 #[.slice (some ⟨b, off, none⟩) t.length c, .int .i64 (k : Int), .int .u8 7] w fun e w' => (∃ v, e = .returned v ∧ Ints w w' v (str t (endOf t k) t.length)) ∧ Fr [] w w' := by
  have hEl := end_len t k A.lt
  obtain ⟨E, hE⟩ : ∃ E, endOf t k = E := ⟨_, rfl⟩
  rw [hE] at hEl ⊢
  have HE := Hid.mk hE
  have HA := Hid.mk A
  clear A hE
  go_enter Tryz.func11, Tryz.ntmps11
  go_wp2_with (first
    | (go_at_call 18; refine (HA.out.has _ (Fr.refl _ _)).mono ?_; rintro e w5 ⟨rfl, f5⟩)
    | (go_at_call 20; refine (end_any _ b off c t (HA.out.nodes.kept f5 (by simp)) HA.out.len k HA.out.lt).mono ?_; rw [HE.out]; rintro e w6 ⟨rfl, f6⟩)
    | (go_at_call 29; refine (stretch_any _ b off c t (HA.out.nodes.kept (f5.trans f6) (by simp)) HA.out.len E t.length (Nat.le_refl _) hEl).mono ?_; rintro e w7 ⟨⟨v, rfl, hv⟩, f7⟩))
  go_ret
  exact ⟨⟨v, rfl, hv.from (f5.trans f6)⟩, (f5.trans f6).trans f7⟩
theorem Go_parent (w : World) (b off c : Nat) (t : List Nd) (k : Nat) (A : At w b off c t k) :
    Calls Tryz.prog 11 #[.slice (some ⟨b, off, none⟩) t.length c, .int .i64 (k : Int), .int .u8 3] w fun e w' => (∃ v, e = .returned v ∧ Ints w w' v ((anc t k).take 1)) ∧ Fr [] w w' := by
  have hp := (A.good k A.lt).1
  have hk' : (k : Int) < (t.length : Int) := by have := A.lt; omega
  have hk0 : (0 : Int) ≤ (k : Int) := by omega
  have h1 : (anc t k).take 1 = if 0 ≤ par t k then [(par t k).toNat] else [] := by
    rw [anc_eq hp.2.1]
    unfold ancI
    split <;> rfl
  rw [h1]
  obtain ⟨P0, hP⟩ : ∃ P0, par t k = P0 := ⟨_, rfl⟩
  rw [hP]
  have HP := Hid.mk hP
  have HA := Hid.mk A
  clear A hp h1 hP
  by_cases h0 : P0 < 0
  · have h0' : ¬ (0 : Int) ≤ P0 := by omega
    rw [if_neg h0']
    go_enter Tryz.func11, Tryz.ntmps11
    go_wp2_with (go_at_call 18; refine (HA.out.has _ (Fr.refl _ _)).mono ?_; rintro e w5 ⟨rfl, f5⟩; obtain ⟨c0, c1, c2, c3⟩ := HA.out.nodes.kept f5 (by simp) k HA.out.lt; rw [HP.out] at c3; clear c0 c1 c2)
    go_ret
    exact ⟨⟨_, rfl, Ints.nil _ _⟩, f5⟩
  · rw [if_pos (by omega)]
    obtain ⟨m, rfl⟩ : ∃ m : Nat, P0 = (m : Int) := ⟨P0.toNat, by omega⟩
    rw [Int.toNat_natCast]
    go_enter Tryz.func11, Tryz.ntmps11
    go_wp2_with (go_at_call 18; refine (HA.out.has _ (Fr.refl _ _)).mono ?_; rintro e w5 ⟨rfl, f5⟩; obtain ⟨c0, c1, c2, c3⟩ := HA.out.nodes.kept f5 (by simp) k HA.out.lt; rw [HP.out] at c3; clear c0 c1 c2)
    go_ret
    exact ⟨⟨_, rfl, ints_one f5 m⟩, f5.alloc _⟩
end Go.Proofs.YtdfgmdddnehocabGreatDoor

namespace Go.Proofs.YtdfgmdddnehocabGreatDoor
open Go.RowKit Go.Maps Go.Lib Go.Sort

theorem grow_none (w : World) : grow w #[] = w := by
  cases w
  simp [grow]
theorem reverse_any (w0 w : World) (v : Value) (l : List Nat) (h : Ints w0 w v l) (hl : l.length ≤ 16384) :
    Calls Tryz.prog 31 #[v] w fun e w' => e = .returned (.tuple #[]) ∧ Ints w0 w' v l.reverse ∧ (Fr [] w0 w → Fr [] w0 w') := by
  rcases h.2 with ⟨rfl, hn⟩ | ⟨g, cap, cur, rfl, hb, hg, hnc, hmx, hcs, ht⟩
  · obtain rfl : l = [] := List.eq_nil_of_length_eq_zero hn
    exact (Tryz.slices_Reverse_int_empty none 0 w).mono fun e w' ⟨h1, h2⟩ => ⟨h1, by rw [h2]; exact h, by rw [h2]; exact id⟩
  · have hlen : (l.map (fun n : Nat => (n : Int))).length = l.length := by simp
    have hH : Holds (Value.int .i64) w g 0 (l.map (fun n : Nat => (n : Int))).toArray := holds_of_blockI hg (by rw [hlen, List.map_map]; rw [Nat.mul_one] at ht; exact ht)
    have hC := Tryz.slices_Reverse_int g 0 cap (l.map (fun n : Nat => (n : Int))) w hH (by rw [hlen]; omega)
    rw [hlen] at hC
    refine hC.mono ?_
    rintro e w' ⟨h1, n, h2⟩
    have hg2 : w.grownBy w' (some g) := by
      have := grownBy_sortedI (w := w) (g := g) (n := n) (os := #[]) (l.map (fun n : Nat => (n : Int))).reverse.toArray
      rw [grow_none] at this
      rw [h2]
      exact this
    refine ⟨h1, ?_, fun f => f.grown hg2 (fun j e hj => by cases e; omega)⟩
    have ho := ownsRow_sortedI (w := w) (base := w0.heap.size) (g := g) (cap := cap) (n := n) (e := 3) (os := #[]) (cur := cur) (ss := l.map (fun n : Nat => (n : Int))) (ts := (l.map (fun n : Nat => (n : Int))).reverse) (by simp) hb hg (by rw [hlen]; exact hnc) hmx hcs
    rw [grow_none, ← h2, hlen] at ho
    show w'.ownsRow w0.heap.size 3 1 _ l.reverse.length (l.reverse.map encI)
    rw [List.length_reverse]
    have e1 : (l.map (fun n : Nat => (n : Int))).reverse.map (Value.int .i64) = l.reverse.map encI := by
      rw [← List.map_reverse, List.map_map]
      rfl
    rw [e1] at ho
    exact ho

set_option maxRecDepth 100000 in
set_option maxHeartbeats 4000000 in
theorem siblings_attr (w : World) (b off c : Nat) (t : List Nd) (hN : NodesIn w b off t) (m : Nat) (hm : m < t.length) (h3 : knd t m = 3) :
    Calls Tryz.prog 30 #[.slice (some ⟨b, off, none⟩) t.length c, .int .i64 (m : Int)] w fun e w' => ∃ v1 v2, e = .returned (.tuple #[v1, v2]) ∧ Ints w w' v1 [] ∧ Ints w w' v2 [] ∧ Fr [] w w' := by
  obtain ⟨c0, c1, c2, c3⟩ := hN m hm
  rw [h3] at c0
  have hm' : (m : Int) < (t.length : Int) := by omega
  have hm0 : (0 : Int) ≤ (m : Int) := by omega
  have f3 : Fr [] w (((w.alloc (.cells #[.int .i64 (m : Int)] 3)).alloc (.cells #[.slice none 0 0] 29)).alloc (.cells #[.slice none 0 0] 29)) := (((Fr.refl _ _).alloc _).alloc _).alloc _
  have d0 := cell_fr f3 (by simp) c0
  clear h3 c1 c2 c3 hN c0
  have b1 := (Boxed.new (w.alloc (.cells #[.int .i64 (m : Int)] 3)) 29 (.slice none 0 0)).alloc (.cells #[.slice none 0 0] 29)
  have b2 := Boxed.new ((w.alloc (.cells #[.int .i64 (m : Int)] 3)).alloc (.cells #[.slice none 0 0] 29)) 29 (.slice none 0 0)
  rw [World.size_alloc] at b1 b2
  rw [World.size_alloc] at b2
  have HB1 := Hid.mk b1
  have HB2 := Hid.mk b2
  clear b1 b2
  go_enter Tryz.func30, Tryz.ntmps30
  go_wp2
  refine bodyPost_ret (res_two Tryz.results30 _ _ _ _ (.slice none 0 0) (.slice none 0 0) rfl rfl HB1.out HB2.out) rfl ?_
  exact ⟨_, _, rfl, Ints.nil _ _, Ints.nil _ _, f3⟩

/-- Siblings, of whatever node. -/
def sibAhead (t : List Nd) (k : Nat) : List Nat := if knd t k = 3 then [] else (kidsL t (par t k)).filter (fun i => decide (i < k))
def sibBehind (t : List Nd) (k : Nat) : List Nat := if knd t k = 3 then [] else (kidsL t (par t k)).filter (fun i => decide (k < i))
theorem siblings_at (w : World) (b off c : Nat) (t : List Nd) (k : Nat) (A : At w b off c t k) :
    Calls Tryz.prog 30 #[.slice (some ⟨b, off, none⟩) t.length c, .int .i64 (k : Int)] w fun e w' => ∃ v1 v2, e = .returned (.tuple #[v1, v2]) ∧ Ints w w' v1 (sibAhead t k) ∧ Ints w w' v2 (sibBehind t k) ∧ Fr [] w w' := by
  unfold sibAhead sibBehind
  by_cases h3 : knd t k = 3
  · rw [if_pos h3, if_pos h3]
    exact siblings_attr w b off c t A.nodes k A.lt h3
  · rw [if_neg h3, if_neg h3]
    exact siblings_any w b off c t A.nodes A.len k A.lt (A.good k A.lt).1 h3 A.blk
theorem sib_len (t : List Nd) (k : Nat) (h : t.length ≤ 16384) (hk : k < t.length) (O : Ord t k) : (sibAhead t k).length ≤ 16384 := by
  unfold sibAhead
  split
  · simp
  · refine Nat.le_trans (List.length_filter_le _ _) ?_
    unfold kidsL
    refine Nat.le_trans (kidsTo_len _ _ _) ?_
    have := (endOf_is (t := t) (k := par t k) O.1 (by have := O.2.1; omega)).le
    omega
theorem Go_fsib (w : World) (b off c : Nat) (t : List Nd) (k : Nat) (A : At w b off c t k) :
    Calls Tryz.prog 11 #[.slice (some ⟨b, off, none⟩) t.length c, .int .i64 (k : Int), .int .u8 5] w fun e w' => (∃ v, e = .returned v ∧ Ints w w' v (sibBehind t k)) ∧ Fr [] w w' := by
  have HA := Hid.mk A
  clear A
  go_enter Tryz.func11, Tryz.ntmps11
  go_wp2_with (first
    | (go_at_call 18; refine (HA.out.has _ (Fr.refl _ _)).mono ?_; rintro e w5 ⟨rfl, f5⟩)
    | (go_at_call 30; refine (siblings_at _ b off c t k (HA.out.kept f5)).mono ?_; rintro e w7 ⟨v1, v2, rfl, h1, h2, f7⟩))
  go_ret
  exact ⟨⟨v2, rfl, h2.from f5⟩, f5.trans f7⟩
theorem Go_psib (w : World) (b off c : Nat) (t : List Nd) (k : Nat) (A : At w b off c t k) :
    Calls Tryz.prog 11 #[.slice (some ⟨b, off, none⟩) t.length c, .int .i64 (k : Int), .int .u8 6] w fun e w' => (∃ v, e = .returned v ∧ Ints w w' v (sibAhead t k).reverse) ∧ Fr [] w w' := by
  have HA := Hid.mk A
  clear A
  go_enter Tryz.func11, Tryz.ntmps11
  go_wp2_with (first
    | (go_at_call 18; refine (HA.out.has _ (Fr.refl _ _)).mono ?_; rintro e w5 ⟨rfl, f5⟩)
    | (go_at_call 30; refine (siblings_at _ b off c t k (HA.out.kept f5)).mono ?_; rintro e w7 ⟨v1, v2, rfl, h1, h2, f7⟩)
    | (go_at_call 31; refine (reverse_any w _ v1 _ (h1.from f5) (sib_len t k HA.out.len HA.out.lt (HA.out.good k HA.out.lt).1)).mono ?_; rintro e w8 ⟨rfl, h8, f8⟩))
  go_ret
  exact ⟨⟨v1, rfl, h8⟩, f8 (f5.trans f7)⟩
end Go.Proofs.YtdfgmdddnehocabGreatDoor

