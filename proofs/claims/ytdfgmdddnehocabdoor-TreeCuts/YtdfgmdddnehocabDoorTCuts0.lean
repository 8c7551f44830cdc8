/-
  TreeCuts: what the walk wants.
-/
import Derived.Test.YtdfgmdddnehocabDoorTCut2
import Derived.Test.YtdfgmdddnehocabDoorTPick
import Derived.Test.YtdfgmdddnehocabDoorTAwake
namespace Go.Proofs.YtdfgmdddnehocabDoor
open Go.RowKit Go.Maps Go.Lib

theorem mk_app (s t : List UInt8) : mkS s ++ mkS t = mkS (s ++ t) := by
  apply ByteArray.ext
  simp [mkS]
theorem part_at (w : World) (L : LaidW w) (b off c : Nat) (t : List Nd) (hI : NodesIn w b off t) (hc : t.length ≤ c) (hS : Sane t) (m : Nat) (hm : m < t.length) (hok : okT t = true) :
    Calls Tryd.prog 7 #[.slice (some ⟨b, off, none⟩) t.length c, .int .i64 (m : Int)] w fun e w' => (∃ g cap, e = .returned (.slice (some ⟨g, 0, none⟩) (endOf t m - m) cap) ∧ NodesIn w' g 0 (partL t m) ∧ endOf t m - m ≤ cap) ∧ Fr [] w w' := by
  have hh : hasB t m = true := by
    unfold hasB
    rw [hok, decide_eq_true (by omega)]
    rfl
  have E := endOf_is (t := t) (k := (m : Int)) (by omega) (by omega)
  have hgt := E.gt
  refine (Part_any w L (some ⟨b, off, none⟩) c t.length t rfl hc hI.at hS m).mono ?_
  rintro e w' ⟨⟨v, rfl, h⟩, f⟩
  refine ⟨?_, f⟩
  unfold partS at h
  rw [if_pos hh, Int.toNat_natCast] at h
  obtain ⟨ad, cap, rfl, hca, hat, had⟩ := h.shape
  rw [part_len] at hca ⊢
  rcases had with rfl | ⟨g, rfl, _⟩
  · obtain ⟨_, _, e, _⟩ := hat 0 (by rw [part_len]; omega)
    cases e
  · refine ⟨g, cap, rfl, fun i hi => ?_, hca⟩
    obtain ⟨b', off', e, h'⟩ := hat i hi
    cases e
    exact h'
theorem text_at (w : World) (L : LaidW w) (b off c : Nat) (t : List Nd) (hI : NodesIn w b off t) (hc : t.length ≤ c) (hS : Sane t) (m : Nat) (hm : m < t.length) (hok : okT t = true) :
    Calls Tryd.prog 10 #[.slice (some ⟨b, off, none⟩) t.length c, .int .i64 (m : Int)] w fun e w' => e = .returned (.string (mkS (textN t m))) ∧ Fr [] w w' := by
  have hh : hasB t m = true := by
    unfold hasB
    rw [hok, decide_eq_true (by omega)]
    rfl
  have := Text_any w L (some ⟨b, off, none⟩) c t.length t rfl hc hI.at hS m
  unfold textS at this
  rw [if_pos hh, Int.toNat_natCast] at this
  exact this
/-! ### the row, summed -/
def sumT (t : List Nd) (l : List Nat) : Nat := (l.map fun (c : Nat) => endOf t c - c).sum
def catT (t : List Nd) (l : List Nat) : List UInt8 := (l.map (textC t)).flatten
theorem take_one {l : List Nat} {i : Nat} (hi : i < l.length) : l.take (i + 1) = l.take i ++ [l.getD i 0] := by
  rw [List.take_succ_eq_append_getElem hi]
  simp [hi]
theorem sumT_step {t : List Nd} {l : List Nat} {i : Nat} (hi : i < l.length) : sumT t (l.take (i + 1)) = sumT t (l.take i) + (endOf t (l.getD i 0) - l.getD i 0) := by
  unfold sumT
  rw [take_one hi]
  simp
theorem catT_step {t : List Nd} {l : List Nat} {i : Nat} (hi : i < l.length) : catT t (l.take (i + 1)) = catT t (l.take i) ++ textC t (l.getD i 0) := by
  unfold catT
  rw [take_one hi]
  simp
theorem sumT_le {t : List Nd} {l : List Nat} (i : Nat) : sumT t (l.take i) ≤ sumT t l := by
  unfold sumT
  conv => rhs; rw [← List.take_append_drop i l, List.map_append, List.sum_append]
  omega
theorem textB_len {t : List Nd} (G : Good t) {m i : Nat} (h : i ≤ t.length) : (((textsL t m i).map bl).flatten).length ≤ (i - m) * 65536 := by
  unfold textsL
  have h1 := flat_len t G ((List.range' m (i - m)).filter (fun i => decide (knd t i = 4))) (fun i hi => by have := List.mem_range'_1.1 (List.mem_filter.1 hi).1; omega)
  have h2 : ((List.range' m (i - m)).filter (fun i => decide (knd t i = 4))).length ≤ i - m := Nat.le_trans (List.length_filter_le _ _) (by rw [List.length_range']; omega)
  exact Nat.le_trans h1 (Nat.mul_le_mul_right _ h2)
theorem catT_le {t : List Nd} {l : List Nat} (i : Nat) : (catT t (l.take i)).length ≤ (catT t l).length := by
  unfold catT
  conv => rhs; rw [← List.take_append_drop i l, List.map_append, List.flatten_append, List.length_append]
  omega
theorem cat_len {t : List Nd} (G : Good t) {k : Nat} (hk : k < t.length) (h : t.length ≤ 300) (i : Nat) : (catT t ((chL t k (k + 1)).take i)).length ≤ 19660800 := by
  refine Nat.le_trans (catT_le i) ?_
  have E := endOf_is (t := t) (k := (k : Int)) (by omega) (by omega)
  have hle := E.le
  have h2 := (ch_sum G hk _ (k + 1) (Nat.le_refl _) (cut_first (Good.ords G) hk)).2
  unfold catT
  rw [h2]
  have := textB_len G (m := k + 1) (i := endOf t k) hle
  omega
theorem root_part {t : List Nd} (G : Good t) (h1 : oneB t = true) (h0 : 0 < t.length) : partL t 0 = t := by
  have E := endOf_is (t := t) (k := ((0 : Nat) : Int)) (by omega) (by omega)
  have e : endOf t ((0 : Nat) : Int) = t.length := E.uniq ⟨by omega, Nat.le_refl _, fun j a b => by have := one_top G h1 b (by omega); omega, fun h => by omega⟩
  have hl := part_len t 0
  refine nth_ext (by omega) fun j hj => ?_
  rw [hl] at hj
  rw [part_nth hj]
  unfold partNd
  rw [Nat.zero_add]
  by_cases hj0 : j = 0
  · subst hj0
    have o := (G 0 h0).1
    have e1 : par t 0 = -1 := by have a1 := o.1; have a2 := o.2.1; omega
    rw [if_pos rfl, ← e1]
    rfl
  · rw [if_neg hj0]
    simp [knd, nam, vlu, par]
theorem kind_root {t : List Nd} (G : Good t) {k : Nat} (hk : k < t.length) (h0 : 0 < k) : knd t k ≠ 1 := fun e => by
  rcases (G k hk).2.2 with f | f | f | f | f | f
  all_goals omega
theorem root_kind {t : List Nd} (h1 : oneB t = true) : knd t 0 = 1 := by
  unfold oneB at h1
  simp only [Bool.and_eq_true, decide_eq_true_eq] at h1
  exact h1.1
theorem judged_deep {t : List Nd} {R : Bool} (h : judged t R = 0) : t.length ≤ 16384 ∧ deepest t t.length ≤ 60 := by
  unfold judged at h
  split at h
  · cases h
  · split at h
    · cases h
    · split at h
      · cases h
      · omega
theorem ok_frag {t : List Nd} (h : judged t (noB t) = 0) : okT t = true := by
  have hn : ¬ knd t 0 = 1 := fun e => by
    have hb : noB t = false := by unfold noB; simp [e]
    rw [hb] at h
    unfold judged at h
    rw [Bool.and_false, if_pos rfl] at h
    split at h
    · cases h
    · cases h
  unfold okT
  rw [if_neg hn, h]
  rfl
theorem ok_tree {t : List Nd} (h : judged t (oneB t) = 0) : okT t = true := (judged_ok h).1
theorem ch_len {t : List Nd} {k y : Nat} : (chL t k y).length ≤ endOf t k - y := by
  unfold chL
  exact Nat.le_trans (List.length_filter_le _ _) (by simp)
end Go.Proofs.YtdfgmdddnehocabDoor
