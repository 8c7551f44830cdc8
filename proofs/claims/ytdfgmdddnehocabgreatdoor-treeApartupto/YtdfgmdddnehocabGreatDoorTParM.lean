/-
  TreeParts: counting; whether rows of numbers are the same.
-/
import Derived.Test.YtdfgmdddnehocabGreatDoorXGo
import Derived.Test.YtdfgmdddnehocabGreatDoorXPick
namespace Go.Proofs.YtdfgmdddnehocabGreatDoor
open Go.RowKit Go.Maps Go.Lib

/-! ### counters -/
def cntA (L : List Nat) (n : Nat) : Array Value := ((List.range n).map fun i => encI (L.count i)).toArray
theorem cnt_size (L : List Nat) (n : Nat) : (cntA L n).size = n := by simp [cntA]
theorem cnt_get (L : List Nat) {n i : Nat} (h : i < n) : (cntA L n)[i]? = some (encI (L.count i)) := by simp [cntA, h]
theorem cnt_set (L : List Nat) (n x : Nat) (h : x < n) : (cntA L n).setIfInBounds x (encI (L.count x + 1)) = cntA (L ++ [x]) n := by
  apply Array.ext_getElem?
  intro i
  rw [Array.getElem?_setIfInBounds]
  by_cases e : x = i
  · subst e
    rw [if_pos rfl, if_pos (by rw [cnt_size]; exact h), cnt_get _ h]
    simp [List.count_append]
  · rw [if_neg e]
    by_cases hi : i < n
    · rw [cnt_get _ hi, cnt_get _ hi, List.count_append, List.count_singleton]
      simp [e]
    · rw [Array.getElem?_eq_none (by rw [cnt_size]; omega), Array.getElem?_eq_none (by rw [cnt_size]; omega)]
theorem cnt_zeros (n : Nat) : madeCells (Value.int .i64 0).cells n = cntA [] n := by
  unfold madeCells cntA
  apply Array.ext'
  simp [Value.cells]
  intro i _
  simp [Nat.mod_one]
def Cnt (w : World) (g : Nat) (L : List Nat) (n : Nat) : Prop := w.heap[g]? = some (.cells (cntA L n) 3)
theorem Cnt.cell {w : World} {g n : Nat} {L : List Nat} (h : Cnt w g L n) {i : Nat} (hi : i < n) : w.cell? ⟨g, i, none⟩ = some (encI (L.count i)) := by rw [cell_of_row w g i _ _ _ h, cnt_get _ hi]
theorem Cnt.frozen {w : World} {g n : Nat} {L : List Nat} (h : Cnt w g L n) (i : Nat) : w.frozen? ⟨g, i, none⟩ = false := frozen_of_row w g i _ _ h
theorem Cnt.kept {w w' : World} {g n : Nat} {L : List Nat} (h : Cnt w g L n) (f : Fr [] w w') : Cnt w' g L n := f.same (by simp) h
theorem Cnt.set {w : World} {g n x : Nat} {L : List Nat} (h : Cnt w g L n) (hx : x < n) : Cnt (w.setCell ⟨g, x, none⟩ (encI (L.count x + 1))) g (L ++ [x]) n := by
  have := heap_setCell_same w g x _ _ (encI (L.count x + 1)) h
  unfold Cnt
  rw [this, cnt_set L n x hx]
theorem Cnt.lt {w : World} {g n : Nat} {L : List Nat} (h : Cnt w g L n) : g < w.heap.size := (Array.getElem?_eq_some_iff.1 h).1
section
variable {ops : Array Oper} {rest : List Oper} {o : Oper} {a : Act} {w : World} {Q : Exit → Act → World → Prop}
theorem wp_makeI (hgd : o.guard = none) (x y : Operand) (ho : o.op = .makeSlice 29 x y) (n : Nat) (hx : a.eval x = .int .i64 (n : Int)) (hy : a.eval y = .int .i64 (n : Int)) (hn : n ≤ 16777216)
    (h : ∀ w' g, w.heap.size ≤ g → Cnt w' g [] n → Fr [] w w' → wpList Tryz.prog ops Q rest (a.put o.dst (.slice (some ⟨g, 0, none⟩) n n)) w') : wpList Tryz.prog ops Q (o :: rest) a w :=
  wpList_plain hgd fun K hK => by
    obtain ⟨i, hi, hz, hs, hb⟩ := info3'
    have hrun := run_makeSlice (P := Tryz.prog) w 29 3 i (.int .i64 0) Tryz.underlying29 hi hz .i64 .i64 (n : Int) (n : Int) (by omega) (by omega) (by rw [hs]; simpa using hn) (by rw [hb]; omega) (by omega)
    rw [hs, Int.toNat_natCast, Nat.mul_one, cnt_zeros] at hrun
    unfold Oper.wp execOp
    simp [ho, hx, hy, hrun, Result.andThen]
    exact hK _ _ (h _ _ (Nat.le_refl _) (heap_alloc_new w _) ((Fr.refl _ _).alloc _))
end

/-! ### SameInts -/
/-! ### the five axes -/
def axs : Nat → Nat
  | 0 => 10
  | 1 => 4
  | 2 => 2
  | 3 => 7
  | _ => 8
def lst (t : List Nd) (k : Nat) : Nat → List Nat
  | 0 => [k]
  | 1 => anc t k
  | 2 => str t (k + 1) (endOf t k)
  | 3 => str t (endOf t k) t.length
  | _ => prec t k
def lsts (t : List Nd) (k : Nat) : Nat → List Nat
  | 0 => []
  | a + 1 => lsts t k a ++ lst t k a
theorem lsts_five (t : List Nd) (k : Nat) : lsts t k 5 = [k] ++ anc t k ++ str t (k + 1) (endOf t k) ++ str t (endOf t k) t.length ++ prec t k := by
  simp [lsts, lst]
theorem Go_axs (w : World) (b off c : Nat) (t : List Nd) (k : Nat) (A : At w b off c t k) (a : Nat) (ha : a < 5) :
    Calls Tryz.prog 11 #[.slice (some ⟨b, off, none⟩) t.length c, .int .i64 (k : Int), .int .u8 (axs a : Nat)] w fun e w' => (∃ v, e = .returned v ∧ Ints w w' v (lst t k a)) ∧ Fr [] w w' := by
  rcases (by omega : a = 0 ∨ a = 1 ∨ a = 2 ∨ a = 3 ∨ a = 4) with rfl | rfl | rfl | rfl | rfl
  · exact Go_self w b off c t k A
  · exact Go_anc w b off c t k A
  · exact Go_desc w b off c t k A
  · exact Go_foll' w b off c t k A
  · exact Go_prec w b off c t k A
theorem lst_lt {t : List Nd} {k : Nat} (hk : k < t.length) (a : Nat) : ∀ x ∈ lst t k a, x < t.length := by
  intro x hx
  have hE := end_len t k hk
  unfold lst at hx
  split at hx
  · simp at hx; omega
  · have := anc_lt t k x hx; omega
  · have := mem_str.1 hx; omega
  · have := mem_str.1 hx; omega
  · have := mem_prec.1 hx; omega
theorem lst_len {t : List Nd} {k : Nat} (hk : k < t.length) (a : Nat) : (lst t k a).length ≤ t.length := by
  have hE := end_len t k hk
  unfold lst
  split
  · simp; omega
  · have := anc_len t k; omega
  · have : (str t (k + 1) (endOf t k)).length ≤ (List.range' (k + 1) (endOf t k - (k + 1))).length := List.length_filter_le _ _
    rw [List.length_range'] at this; omega
  · have : (str t (endOf t k) t.length).length ≤ (List.range' (endOf t k) (t.length - endOf t k)).length := List.length_filter_le _ _
    rw [List.length_range'] at this; omega
  · have := precTo_len t k 0
    rw [precTo_zero] at this
    omega
end Go.Proofs.YtdfgmdddnehocabGreatDoor
