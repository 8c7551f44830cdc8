/-
  Go: siblings; oneself and others.
-/
import Derived.Test.YtdfgmdddnehocabDoorTGo
import Derived.Sort.OwnSortedInts
namespace Go.Proofs.YtdfgmdddnehocabDoor
open Go.RowKit Go.Maps Go.Lib Go.Sort

theorem grow_none (w : World) : grow w #[] = w := by
  cases w
  simp [grow]
theorem reverse_any (w0 w : World) (v : Value) (l : List Nat) (h : Ints w0 w v l) (hl : l.length ≤ 16384) :
    Calls Tryd.prog 28 #[v] w fun e w' => e = .returned (.tuple #[]) ∧ Ints w0 w' v l.reverse ∧ (Fr [] w0 w → Fr [] w0 w') := by
  rcases h.2 with ⟨rfl, hn⟩ | ⟨g, cap, cur, rfl, hb, hg, hnc, hmx, hcs, ht⟩
  · obtain rfl : l = [] := List.eq_nil_of_length_eq_zero hn
    exact (Tryd.slices_Reverse_int_empty none 0 w).mono fun e w' ⟨h1, h2⟩ => ⟨h1, by rw [h2]; exact h, by rw [h2]; exact id⟩
  · have hlen : (l.map (fun n : Nat => (n : Int))).length = l.length := by simp
    have hH : Holds (Value.int .i64) w g 0 (l.map (fun n : Nat => (n : Int))).toArray := holds_of_blockI hg (by rw [hlen, List.map_map]; rw [Nat.mul_one] at ht; exact ht)
    have hC := Tryd.slices_Reverse_int g 0 cap (l.map (fun n : Nat => (n : Int))) w hH (by rw [hlen]; omega)
    rw [hlen] at hC
    refine hC.mono ?_
    rintro e w' ⟨h1, n, h2⟩
    have hg2 : w.grownBy w' (some g) := by
      have := grownBy_sortedI (w := w) (g := g) (n := n) (os := #[]) (l.map (fun n : Nat => (n : Int))).reverse.toArray
      rw [grow_none] at this
      rw [h2]
      exact this
    refine ⟨h1, ?_, fun f => f.grown hg2 (fun j e hj => by cases e; omega)⟩
    have ho := ownsRow_sortedI (w := w) (base := w0.heap.size) (g := g) (cap := cap) (n := n) (e := 3) (os := #[]) (cur := cur) (ss := l.map (fun n : Nat => (n : Int))) (ts := (l.map (fun n : Nat => (n : Int))).reverse) (by simp) hb hg (by rw [hlen]; exact hnc) hmx hcs
    rw [grow_none, ← h2, hlen] at ho
    show w'.ownsRow w0.heap.size 3 1 _ l.reverse.length (l.reverse.map encI)
    rw [List.length_reverse]
    have e1 : (l.map (fun n : Nat => (n : Int))).reverse.map (Value.int .i64) = l.reverse.map encI := by
      rw [← List.map_reverse, List.map_map]
      rfl
    rw [e1] at ho
    exact ho

set_option maxRecDepth 100000 in
set_option maxHeartbeats 4000000 in
theorem siblings_attr (w : World) (b off c : Nat) (t : List Nd) (hN : NodesIn w b off t) (m : Nat) (hm : m < t.length) (h3 : knd t m = 3) :
    Calls Tryd.prog 27 #[.slice (some ⟨b, off, none⟩) t.length c, .int .i64 (m : Int)] w fun e w' => ∃ v1 v2, e = .returned (.tuple #[v1, v2]) ∧ Ints w w' v1 [] ∧ Ints w w' v2 [] ∧ Fr [] w w' := by
  obtain ⟨c0, c1, c2, c3⟩ := hN m hm
  rw [h3] at c0
  have hm' : (m : Int) < (t.length : Int) := by omega
  have hm0 : (0 : Int) ≤ (m : Int) := by omega
  have f3 : Fr [] w (((w.alloc (.cells #[.int .i64 (m : Int)] 3)).alloc (.cells #[.slice none 0 0] 33)).alloc (.cells #[.slice none 0 0] 33)) := (((Fr.refl _ _).alloc _).alloc _).alloc _
  have d0 := cell_fr f3 (by simp) c0
  clear h3 c1 c2 c3 hN c0
  have b1 := (Boxed.new (w.alloc (.cells #[.int .i64 (m : Int)] 3)) 33 (.slice none 0 0)).alloc (.cells #[.slice none 0 0] 33)
  have b2 := Boxed.new ((w.alloc (.cells #[.int .i64 (m : Int)] 3)).alloc (.cells #[.slice none 0 0] 33)) 33 (.slice none 0 0)
  rw [World.size_alloc] at b1 b2
  rw [World.size_alloc] at b2
  have HB1 := Hid.mk b1
  have HB2 := Hid.mk b2
  clear b1 b2
  go_enter Tryd.func27, Tryd.ntmps27
  go_wp2
  refine bodyPost_ret (res_two Tryd.results27 _ _ _ _ (.slice none 0 0) (.slice none 0 0) rfl rfl HB1.out HB2.out) rfl ?_
  exact ⟨_, _, rfl, Ints.nil _ _, Ints.nil _ _, f3⟩

/-- Siblings, of whatever node. -/
def sibAhead (t : List Nd) (k : Nat) : List Nat := if knd t k = 3 then [] else (kidsL t (par t k)).filter (fun i => decide (i < k))
def sibBehind (t : List Nd) (k : Nat) : List Nat := if knd t k = 3 then [] else (kidsL t (par t k)).filter (fun i => decide (k < i))
theorem siblings_at (w : World) (b off c : Nat) (t : List Nd) (k : Nat) (A : At w b off c t k) :
    Calls Tryd.prog 27 #[.slice (some ⟨b, off, none⟩) t.length c, .int .i64 (k : Int)] w fun e w' => ∃ v1 v2, e = .returned (.tuple #[v1, v2]) ∧ Ints w w' v1 (sibAhead t k) ∧ Ints w w' v2 (sibBehind t k) ∧ Fr [] w w' := by
  unfold sibAhead sibBehind
  by_cases h3 : knd t k = 3
  · rw [if_pos h3, if_pos h3]
    exact siblings_attr w b off c t A.nodes k A.lt h3
  · rw [if_neg h3, if_neg h3]
    exact siblings_any w b off c t A.nodes A.len k A.lt (A.good k A.lt).1 h3 A.blk
theorem sib_len (t : List Nd) (k : Nat) (h : t.length ≤ 16384) (hk : k < t.length) (O : Ord t k) : (sibAhead t k).length ≤ 16384 := by
  unfold sibAhead
  split
  · simp
  · refine Nat.le_trans (List.length_filter_le _ _) ?_
    unfold kidsL
    refine Nat.le_trans (kidsTo_len _ _ _) ?_
    have := (endOf_is (t := t) (k := par t k) O.1 (by have := O.2.1; omega)).le
    omega
theorem Go_fsib (w : World) (b off c : Nat) (t : List Nd) (k : Nat) (A : At w b off c t k) :
    Calls Tryd.prog 14 #[.slice (some ⟨b, off, none⟩) t.length c, .int .i64 (k : Int), .int .u8 5] w fun e w' => (∃ v, e = .returned v ∧ Ints w w' v (sibBehind t k)) ∧ Fr [] w w' := by
  have HA := Hid.mk A
  clear A
  go_enter Tryd.func14, Tryd.ntmps14
  go_wp2_with (first
    | (go_at_call 17; refine (HA.out.has _ (Fr.refl _ _)).mono ?_; rintro e w5 ⟨rfl, f5⟩)
    | (go_at_call 27; refine (siblings_at _ b off c t k (HA.out.kept f5)).mono ?_; rintro e w7 ⟨v1, v2, rfl, h1, h2, f7⟩))
  go_ret
  exact ⟨⟨v2, rfl, h2.from f5⟩, f5.trans f7⟩
theorem Go_psib (w : World) (b off c : Nat) (t : List Nd) (k : Nat) (A : At w b off c t k) :
    Calls Tryd.prog 14 #[.slice (some ⟨b, off, none⟩) t.length c, .int .i64 (k : Int), .int .u8 6] w fun e w' => (∃ v, e = .returned v ∧ Ints w w' v (sibAhead t k).reverse) ∧ Fr [] w w' := by
  have HA := Hid.mk A
  clear A
  go_enter Tryd.func14, Tryd.ntmps14
  go_wp2_with (first
    | (go_at_call 17; refine (HA.out.has _ (Fr.refl _ _)).mono ?_; rintro e w5 ⟨rfl, f5⟩)
    | (go_at_call 27; refine (siblings_at _ b off c t k (HA.out.kept f5)).mono ?_; rintro e w7 ⟨v1, v2, rfl, h1, h2, f7⟩)
    | (go_at_call 28; refine (reverse_any w _ v1 _ (h1.from f5) (sib_len t k HA.out.len HA.out.lt (HA.out.good k HA.out.lt).1)).mono ?_; rintro e w8 ⟨rfl, h8, f8⟩))
  go_ret
  exact ⟨⟨v1, rfl, h8⟩, f8 (f5.trans f7)⟩
end Go.Proofs.YtdfgmdddnehocabDoor
