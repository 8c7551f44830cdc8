/-
  TreeParts: counting; whether rows of numbers are the same.
-/
import Derived.Test.YtdfgmdddnehocaaGreatDoorXGo
import Derived.Test.YtdfgmdddnehocaaGreatDoorXPick
namespace Go.Proofs.YtdfgmdddnehocaaGreatDoor
open Go.RowKit Go.Maps Go.Lib

/-! ### counters -/
def cntA (L : List Nat) (n : Nat) : Array Value := ((List.range n).map fun i => encI (L.count i)).toArray
theorem cnt_size (L : List Nat) (n : Nat) : (cntA L n).size = n := by simp [cntA]
theorem cnt_get (L : List Nat) {n i : Nat} (h : i < n) : (cntA L n)[i]? = some (encI (L.count i)) := by simp [cntA, h]
theorem cnt_set (L : List Nat) (n x : Nat) (h : x < n) : (cntA L n).setIfInBounds x (encI (L.count x + 1)) = cntA (L ++ [x]) n := by
  apply Array.ext_getElem?
  intro i
  rw [Array.getElem?_setIfInBounds]
  by_cases e : x = i
  · subst e
    rw [if_pos rfl, if_pos (by rw [cnt_size]; exact h), cnt_get _ h]
    simp [List.count_append]
  · rw [if_neg e]
    by_cases hi : i < n
    · rw [cnt_get _ hi, cnt_get _ hi, List.count_append, List.count_singleton]
      simp [e]
    · rw [Array.getElem?_eq_none (by rw [cnt_size]; omega), Array.getElem?_eq_none (by rw [cnt_size]; omega)]
theorem cnt_zeros (n : Nat) : madeCells (Value.int .i64 0).cells n = cntA [] n := by
  unfold madeCells cntA
  apply Array.ext'
  simp [Value.cells]
  intro i _
  simp [Nat.mod_one]
def Cnt (w : World) (g : Nat) (L : List Nat) (n : Nat) : Prop := w.heap[g]? = some (.cells (cntA L n) 3)
theorem Cnt.cell {w : World} {g n : Nat} {L : List Nat} (h : Cnt w g L n) {i : Nat} (hi : i < n) : w.cell? ⟨g, i, none⟩ = some (encI (L.count i)) := by rw [cell_of_row w g i _ _ _ h, cnt_get _ hi]
theorem Cnt.frozen {w : World} {g n : Nat} {L : List Nat} (h : Cnt w g L n) (i : Nat) : w.frozen? ⟨g, i, none⟩ = false := frozen_of_row w g i _ _ h
theorem Cnt.kept {w w' : World} {g n : Nat} {L : List Nat} (h : Cnt w g L n) (f : Fr [] w w') : Cnt w' g L n := f.same (by simp) h
theorem Cnt.set {w : World} {g n x : Nat} {L : List Nat} (h : Cnt w g L n) (hx : x < n) : Cnt (w.setCell ⟨g, x, none⟩ (encI (L.count x + 1))) g (L ++ [x]) n := by
  have := heap_setCell_same w g x _ _ (encI (L.count x + 1)) h
  unfold Cnt
  rw [this, cnt_set L n x hx]
theorem Cnt.lt {w : World} {g n : Nat} {L : List Nat} (h : Cnt w g L n) : g < w.heap.size := (Array.getElem?_eq_some_iff.1 h).1
section
variable {ops : Array Oper} {rest : List Oper} {o : Oper} {a : Act} {w : World} {Q : Exit → Act → World → Prop}
theorem wp_makeI (hgd : o.guard = none) (x y : Operand) (ho : o.op = .makeSlice 28 x y) (n : Nat) (hx : a.eval x = .int .i64 (n : Int)) (hy : a.eval y = .int .i64 (n : Int)) (hn : n ≤ 16777216)
    (h : ∀ w' g, w.heap.size ≤ g → Cnt w' g [] n → Fr [] w w' → wpList Tryz.prog ops Q rest (a.put o.dst (.slice (some ⟨g, 0, none⟩) n n)) w') : wpList Tryz.prog ops Q (o :: rest) a w :=
  wpList_plain hgd fun K hK => by
    obtain ⟨i, hi, hz, hs, hb⟩ := info3'
    have hrun := run_makeSlice (P := Tryz.prog) w 28 3 i (.int .i64 0) Tryz.underlying28 hi hz .i64 .i64 (n : Int) (n : Int) (by omega) (by omega) (by rw [hs]; simpa using hn) (by rw [hb]; omega) (by omega)
    rw [hs, Int.toNat_natCast, Nat.mul_one, cnt_zeros] at hrun
    unfold Oper.wp execOp
    simp [ho, hx, hy, hrun, Result.andThen]
    exact hK _ _ (h _ _ (Nat.le_refl _) (heap_alloc_new w _) ((Fr.refl _ _).alloc _))
end

/-! ### SameInts -/
set_option maxHeartbeats 4000000 in
set_option maxRecDepth 100000 in
theorem sameInts_any (w u1 u2 : World) (v1 v2 : Value) (l1 l2 : List Nat) (h1 : Ints u1 w v1 l1) (h2 : Ints u2 w v2 l2) (hb : l1.length ≤ 100000) :
    Calls Tryz.prog 6 #[v1, v2] w fun e w' => e = .returned (.bool (decide (l1 = l2))) ∧ Fr [] w w' := by
  obtain ⟨ad1, cap1, rfl, _⟩ := h1.shape
  obtain ⟨ad2, cap2, rfl, _⟩ := h2.shape
  have H1 := Hid.mk h1
  have H2 := Hid.mk h2
  clear h1 h2
  obtain ⟨n1, hn1⟩ : ∃ n1, l1.length = n1 := ⟨_, rfl⟩
  obtain ⟨n2, hn2⟩ : ∃ n2, l2.length = n2 := ⟨_, rfl⟩
  have HN1 := Hid.mk hn1
  have HN2 := Hid.mk hn2
  rw [hn1] at H1 hb ⊢
  rw [hn2] at H2 ⊢
  clear hn1 hn2
  obtain ⟨B, hB⟩ : ∃ B, decide (l1 = l2) = B := ⟨_, rfl⟩
  rw [hB]
  have HB := Hid.mk hB
  clear hB
  by_cases hne : n1 = n2
  · subst hne
    have hnb : ((n1 : Int) != (n1 : Int)) = false := by simp
    go_enter Tryz.func6, Tryz.ntmps6
    go_wp2
    go_loopw [5] (fun s4 wr => ∃ i : Nat, s4 = .int .i64 (i : Int) ∧ i ≤ n1 ∧ Hid (∀ j, j < i → l1.getD j 0 = l2.getD j 0) ∧ Hid (Fr [] w wr)) (fun s4 _ => n1 - (RowKit.intOf s4).toNat)
    case atStart => exact ⟨0, rfl, Nat.zero_le _, (fun j hj => by omega), Fr.refl _ _⟩
    case round =>
      obtain ⟨i, rfl, hi, hS, frh⟩ := hrel
      have hi0 : (0 : Int) ≤ (i : Int) := by omega
      by_cases hlt : i < n1
      · have hlt' : (i : Int) < (n1 : Int) := by omega
        have H1' : Ints u1 wr (.slice ad1 l1.length cap1) l1 := by rw [HN1.out]; exact H1.out.kept0 frh.out
        have H2' : Ints u2 wr (.slice ad2 l2.length cap2) l2 := by rw [HN2.out]; exact H2.out.kept0 frh.out
        obtain ⟨g1, c1, e1, _, q1⟩ := H1'.at (i := i) (by rw [HN1.out]; exact hlt)
        obtain ⟨g2, c2, e2, _, q2⟩ := H2'.at (i := i) (by rw [HN2.out]; exact hlt)
        cases e1
        cases e2
        clear H1' H2'
        obtain ⟨x, hx⟩ : ∃ x, l1.getD i 0 = x := ⟨_, rfl⟩
        obtain ⟨y, hy⟩ : ∃ y, l2.getD i 0 = y := ⟨_, rfl⟩
        rw [hx] at q1
        rw [hy] at q2
        have HX := Hid.mk hx
        have HY := Hid.mk hy
        clear hx hy
        by_cases hxy : x = y
        · subst hxy
          have hxb : ((x : Int) != (x : Int)) = false := by simp
          go_wp2
          go_quiet (fail)
          go_wp2
          exact ⟨⟨i + 1, by go_num, by omega, fun j hj => (by
            by_cases e : j = i
            · subst e; rw [HX.out, HY.out]
            · exact hS.out j (by omega)), frh.out.trans ⟨rfl, rfl, rfl, Nat.le_refl _, fun _ _ _ => rfl⟩⟩, by simp [RowKit.intOf]; omega⟩
        · have hxb : ((x : Int) != (y : Int)) = true := by rw [bne_iff_ne]; omega
          have HNO := Hid.mk (show decide (l1 = l2) = false from decide_eq_false (fun e => hxy (by rw [← HX.out, ← HY.out, e])))
          go_wp2
          go_quiet (fail)
          go_wp2
          go_ret
          exact ⟨by rw [← HB.out, HNO.out]; rfl, frh.out.trans ⟨rfl, rfl, rfl, Nat.le_refl _, fun _ _ _ => rfl⟩⟩
      · obtain rfl : i = n1 := by omega
        have hyes : decide (l1 = l2) = true := by
          refine decide_eq_true (List.ext_getElem (by rw [HN1.out, HN2.out]) fun j g1 g2 => ?_)
          have := hS.out j (by rw [HN1.out] at g1; exact g1)
          rw [List.getD_eq_getElem?_getD, List.getD_eq_getElem?_getD, List.getElem?_eq_getElem g1, List.getElem?_eq_getElem g2] at this
          exact this
        have HY := Hid.mk hyes
        clear hyes
        go_wp2
        go_ret
        exact ⟨by rw [← HB.out, HY.out]; rfl, frh.out⟩
  · have hnb : ((n1 : Int) != (n2 : Int)) = true := by rw [bne_iff_ne]; omega
    have hno : decide (l1 = l2) = false := decide_eq_false (fun e => hne (by rw [← HN1.out, ← HN2.out, e]))
    have HNO := Hid.mk hno
    clear hno
    go_enter Tryz.func6, Tryz.ntmps6
    go_wp2
    go_ret
    exact ⟨by rw [← HB.out, HNO.out]; rfl, Fr.refl _ _⟩

/-! ### the five axes -/
def axs : Nat → Nat
  | 0 => 10
  | 1 => 4
  | 2 => 2
  | 3 => 7
  | _ => 8
def lst (t : List Nd) (k : Nat) : Nat → List Nat
  | 0 => [k]
  | 1 => anc t k
  | 2 => str t (k + 1) (endOf t k)
  | 3 => str t (endOf t k) t.length
  | _ => prec t k
def lsts (t : List Nd) (k : Nat) : Nat → List Nat
  | 0 => []
  | a + 1 => lsts t k a ++ lst t k a
theorem lsts_five (t : List Nd) (k : Nat) : lsts t k 5 = [k] ++ anc t k ++ str t (k + 1) (endOf t k) ++ str t (endOf t k) t.length ++ prec t k := by
  simp [lsts, lst]
theorem Go_axs (w : World) (b off c : Nat) (t : List Nd) (k : Nat) (A : At w b off c t k) (a : Nat) (ha : a < 5) :
    Calls Tryz.prog 22 #[.slice (some ⟨b, off, none⟩) t.length c, .int .i64 (k : Int), .int .u8 (axs a : Nat)] w fun e w' => (∃ v, e = .returned v ∧ Ints w w' v (lst t k a)) ∧ Fr [] w w' := by
  rcases (by omega : a = 0 ∨ a = 1 ∨ a = 2 ∨ a = 3 ∨ a = 4) with rfl | rfl | rfl | rfl | rfl
  · exact Go_self w b off c t k A
  · exact Go_anc w b off c t k A
  · exact Go_desc w b off c t k A
  · exact Go_foll' w b off c t k A
  · exact Go_prec w b off c t k A
theorem lst_lt {t : List Nd} {k : Nat} (hk : k < t.length) (a : Nat) : ∀ x ∈ lst t k a, x < t.length := by
  intro x hx
  have hE := end_len t k hk
  unfold lst at hx
  split at hx
  · simp at hx; omega
  · have := anc_lt t k x hx; omega
  · have := mem_str.1 hx; omega
  · have := mem_str.1 hx; omega
  · have := mem_prec.1 hx; omega
theorem lst_len {t : List Nd} {k : Nat} (hk : k < t.length) (a : Nat) : (lst t k a).length ≤ t.length := by
  have hE := end_len t k hk
  unfold lst
  split
  · simp; omega
  · have := anc_len t k; omega
  · have : (str t (k + 1) (endOf t k)).length ≤ (List.range' (k + 1) (endOf t k - (k + 1))).length := List.length_filter_le _ _
    rw [List.length_range'] at this; omega
  · have : (str t (endOf t k) t.length).length ≤ (List.range' (endOf t k) (t.length - endOf t k)).length := List.length_filter_le _ _
    rw [List.length_range'] at this; omega
  · have := precTo_len t k 0
    rw [precTo_zero] at this
    omega
end Go.Proofs.YtdfgmdddnehocaaGreatDoor
