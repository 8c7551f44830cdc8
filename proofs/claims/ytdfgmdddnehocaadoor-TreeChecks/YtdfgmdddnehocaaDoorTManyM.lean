/-
  Rows at their limits: many nodes, deep ones, long values: plain mathematics.
-/
import Derived.Test.YtdfgmdddnehocaaDoorTMath
set_option linter.unusedVariables false
namespace Go.Proofs.YtdfgmdddnehocaaDoor
open Go.Lib

def nmA : ByteArray := ⟨#[97]⟩
theorem nmA_name : nameB (bl nmA) = true := by decide
def bRoot : Nd := ⟨1, ⟨#[]⟩, ⟨#[]⟩, -1⟩
def bElem (p : Int) : Nd := ⟨2, nmA, ⟨#[]⟩, p⟩
def bComm : Nd := ⟨5, ⟨#[]⟩, ⟨#[]⟩, 1⟩
theorem texts_nil : textsB [] = true := by decide
theorem bl_empty : bl ⟨#[]⟩ = [] := rfl

/-! ### many nodes -/
def manyRow (n : Nat) : List Nd := bRoot :: bElem 0 :: List.replicate (n - 2) bComm
theorem many_len (n : Nat) (h : 2 ≤ n) : (manyRow n).length = n := by simp [manyRow]; omega
theorem many_nth (n i : Nat) (h : 2 ≤ i) (hi : i < n) : nth (manyRow n) i = bComm := by
  obtain ⟨j, rfl⟩ : ∃ j, i = j + 2 := ⟨i - 2, by omega⟩
  unfold nth manyRow
  simp [show j < n - 2 by omega]
theorem many_nth0 (n : Nat) : nth (manyRow n) 0 = bRoot := rfl
theorem many_nth1 (n : Nat) : nth (manyRow n) 1 = bElem 0 := rfl
theorem many_good (n : Nat) : Upto (manyRow n) n := by
  intro i hi
  have p0 : par (manyRow n) 0 = -1 := rfl
  have p1 : par (manyRow n) 1 = 0 := rfl
  have k0 : knd (manyRow n) 0 = 1 := rfl
  have k1 : knd (manyRow n) 1 = 2 := rfl
  match i with
  | 0 => exact ⟨⟨by rw [p0]; decide, by rw [p0]; decide, fun j hj => by omega⟩, ⟨texts_nil, Nat.zero_le _⟩, Or.inl ⟨rfl, rfl, rfl, rfl⟩⟩
  | 1 => exact ⟨⟨by rw [p1]; decide, by rw [p1]; decide, fun j hj hp => by rw [p1] at hp; omega⟩, ⟨texts_nil, Nat.zero_le _⟩, Or.inr (Or.inl ⟨rfl, Or.inr (Or.inl (by rw [p1]; exact k0)), nmA_name, rfl⟩)⟩
  | i + 2 =>
    have hn := many_nth n (i + 2) (by omega) hi
    have hp : par (manyRow n) (i + 2) = 1 := by unfold par; rw [hn]; rfl
    have hk : knd (manyRow n) (i + 2) = 5 := by unfold knd; rw [hn]; rfl
    have hm : nam (manyRow n) (i + 2) = ⟨#[]⟩ := by unfold nam; rw [hn]; rfl
    have hv : vlu (manyRow n) (i + 2) = ⟨#[]⟩ := by unfold vlu; rw [hn]; rfl
    refine ⟨⟨by rw [hp]; decide, by rw [hp]; omega, fun j hj hlt => ?_⟩, ⟨by rw [hv]; decide, by rw [hv]; decide⟩, Or.inr (Or.inr (Or.inr (Or.inr (Or.inl ⟨hk, Or.inr (Or.inr (by rw [hp]; exact k1)), by rw [hm]; rfl, by rw [hv]; rfl, by rw [hv]; decide⟩))))⟩
    rw [hp] at hlt ⊢
    have : par (manyRow n) j = 1 := by unfold par; rw [many_nth n j (by omega) (by omega)]; rfl
    omega
theorem many_root (n : Nat) : (decide (knd (manyRow n) 0 = 1) && (decide (tops (manyRow n) = 1) && decide (elems (manyRow n) = 1))) = true := by
  have h1 : tops (manyRow n) = 1 := by
    unfold tops manyRow
    rw [List.countP_cons, List.countP_cons, List.countP_replicate]
    rfl
  have h2 : elems (manyRow n) = 1 := by
    unfold elems manyRow
    rw [List.countP_cons, List.countP_cons, List.countP_replicate]
    rfl
  rw [h1, h2]
  rfl
theorem many_deep (n : Nat) : deepest (manyRow n) n ≤ 60 := by
  refine (deepest_le 60 n).2 fun i hi hk => ?_
  match i with
  | 0 => cases hk
  | 1 =>
    have p0 : par (manyRow n) 0 = -1 := rfl
    have p1 : par (manyRow n) 1 = 0 := rfl
    have k0 : knd (manyRow n) 0 = 1 := rfl
    have k1 : knd (manyRow n) 1 = 2 := rfl
    rw [dep, dif_pos (by rw [p1]; decide), p1, show (0 : Int).toNat = 0 from rfl, dep, dif_neg (by rw [p0]; decide), k0, k1]
    decide
  | i + 2 =>
    have hn := many_nth n (i + 2) (by omega) hi
    unfold knd at hk
    rw [hn] at hk
    cases hk
theorem many_judged (n : Nat) (h : 2 ≤ n) : judged (manyRow n) (decide (knd (manyRow n) 0 = 1) && (decide (tops (manyRow n) = 1) && decide (elems (manyRow n) = 1))) = if n ≤ 16384 then 0 else 3 := by
  unfold judged
  rw [many_len n h, (goodB_iff (manyRow n) n).2 (many_good n), many_root]
  have := many_deep n
  by_cases c : n ≤ 16384
  · rw [if_neg (by omega), if_pos c]
    simp; omega
  · rw [if_pos (by omega), if_neg c]

/-! ### deep ones -/
def deepRow (d : Nat) : List Nd := bRoot :: (List.range d).map fun (i : Nat) => bElem (i : Int)
theorem deep_len (d : Nat) : (deepRow d).length = d + 1 := by simp [deepRow]
theorem deep_nth (d i : Nat) (hi : i < d) : nth (deepRow d) (i + 1) = bElem (i : Int) := by
  unfold nth deepRow
  simp [hi]
theorem deep_nth0 (d : Nat) : nth (deepRow d) 0 = bRoot := rfl
theorem deep_par (d i : Nat) (hi : i ≤ d) : par (deepRow d) i = (i : Int) - 1 := by
  match i with
  | 0 => rfl
  | i + 1 => unfold par; rw [deep_nth d i hi]; show (i : Int) = _; omega
theorem deep_knd (d i : Nat) (hi : i ≤ d) : knd (deepRow d) i = if i = 0 then 1 else 2 := by
  match i with
  | 0 => rfl
  | i + 1 => unfold knd; rw [deep_nth d i hi]; rfl
theorem deep_good (d : Nat) : Upto (deepRow d) (d + 1) := by
  intro i hi
  have hp := deep_par d i (by omega)
  refine ⟨⟨by rw [hp]; omega, by rw [hp]; omega, fun j hj hlt => by rw [hp] at hlt; omega⟩, ?_⟩
  match i with
  | 0 => exact ⟨⟨texts_nil, Nat.zero_le _⟩, Or.inl ⟨rfl, rfl, rfl, rfl⟩⟩
  | i + 1 =>
    have hn := deep_nth d i (by omega)
    have hk : knd (deepRow d) (i + 1) = 2 := by unfold knd; rw [hn]; rfl
    have hm : nam (deepRow d) (i + 1) = nmA := by unfold nam; rw [hn]; rfl
    have hv : vlu (deepRow d) (i + 1) = ⟨#[]⟩ := by unfold vlu; rw [hn]; rfl
    refine ⟨⟨by rw [hv]; decide, by rw [hv]; decide⟩, Or.inr (Or.inl ⟨hk, Or.inr ?_, by rw [hm]; exact nmA_name, by rw [hv]; rfl⟩)⟩
    rw [hp, show (((i + 1 : Nat) : Int) - 1).toNat = i by omega, deep_knd d i (by omega)]
    by_cases c : i = 0
    · rw [if_pos c]; exact Or.inl rfl
    · rw [if_neg c]; exact Or.inr rfl
theorem deep_dep (d : Nat) : ∀ i, i ≤ d → dep (deepRow d) i = i
  | 0, h => by rw [dep, dif_neg (by rw [deep_par d 0 h]; decide), deep_knd d 0 h]; rfl
  | i + 1, h => by
    have ho := (deep_good d (i + 1) (by omega)).1
    rw [dep_eq ho, deep_par d (i + 1) h, show ((i + 1 : Nat) : Int) - 1 = (i : Int) by omega, depI_nat, deep_dep d i (by omega), deep_knd d (i + 1) h, if_neg (show ¬ i + 1 = 0 by omega)]
    show 1 + i = i + 1
    omega
theorem deep_deepest (d : Nat) : ∀ n, n ≤ d → deepest (deepRow d) (n + 1) = n
  | 0, h => by
    unfold deepest
    rw [deep_knd d 0 h]
    rfl
  | n + 1, h => by
    unfold deepest
    rw [deep_knd d (n + 1) h, deep_deepest d n (by omega), deep_dep d (n + 1) h]
    simp
theorem deep_tops (d : Nat) : tops (deepRow d) = 1 := by
  unfold tops deepRow
  rw [List.countP_cons]
  have : (((List.range d).map fun (i : Nat) => bElem (i : Int)).countP fun n => decide (n.parent < 0)) = 0 := by
    rw [List.countP_eq_zero]
    intro x hx
    obtain ⟨i, _, rfl⟩ := List.mem_map.1 hx
    intro h
    have : (i : Int) < 0 := of_decide_eq_true h
    omega
  rw [this]
  rfl
theorem deep_elems (d : Nat) (h : 0 < d) : elems (deepRow d) = 1 := by
  unfold elems deepRow
  obtain ⟨e, rfl⟩ : ∃ e, d = e + 1 := ⟨d - 1, by omega⟩
  rw [List.range_succ_eq_map, List.map_cons, List.countP_cons, List.countP_cons]
  have : (((List.range e).map Nat.succ).map (fun (i : Nat) => bElem (i : Int))).countP (fun n => decide (n.parent = 0 ∧ n.kind = 2)) = 0 := by
    rw [List.countP_eq_zero]
    intro x hx
    obtain ⟨i, hi, rfl⟩ := List.mem_map.1 hx
    obtain ⟨j, _, rfl⟩ := List.mem_map.1 hi
    simp [bElem]
    omega
  rw [this]
  rfl
theorem deep_judged (d : Nat) (h0 : 0 < d) (hd : d < 16384) : judged (deepRow d) (decide (knd (deepRow d) 0 = 1) && (decide (tops (deepRow d) = 1) && decide (elems (deepRow d) = 1))) = if d ≤ 60 then 0 else 131 := by
  unfold judged
  rw [deep_len, (goodB_iff (deepRow d) (d + 1)).2 (deep_good d), deep_tops, deep_elems d h0, deep_deepest d d (Nat.le_refl _), show knd (deepRow d) 0 = 1 from rfl, if_neg (by omega)]
  by_cases c : d ≤ 60
  · rw [if_pos c]; simp; omega
  · rw [if_neg c]; simp; omega

/-! ### long values -/
def longRow (v : ByteArray) : List Nd := [bRoot, bElem 0, ⟨4, ⟨#[]⟩, v, 1⟩]
theorem texts_x : ∀ n, textsB (List.replicate n 120) = true
  | 0 => by decide
  | n + 1 => by
    rw [show List.replicate (n + 1) (120 : UInt8) = [120] ++ List.replicate n 120 from rfl, texts_left (by decide)]
    exact texts_x n
theorem long_judged (v : ByteArray) (n : Nat) (hv : bl v = List.replicate n 120) (h0 : 0 < n) :
    judged (longRow v) (decide (knd (longRow v) 0 = 1) && (decide (tops (longRow v) = 1) && decide (elems (longRow v) = 1))) = if n ≤ 65536 then 0 else 4 := by
  have hs : v.size = n := by rw [← bl_length, hv, List.length_replicate]
  have o0 : Ord (longRow v) 0 := ⟨by show (-1 : Int) ≤ -1; decide, by show (-1 : Int) < 0; decide, fun j hj => by omega⟩
  have o1 : Ord (longRow v) 1 := ⟨by show (-1 : Int) ≤ 0; decide, by show (0 : Int) < 1; decide, fun j hj hp => by have : (0 : Int) < j := hp; omega⟩
  have o2 : Ord (longRow v) 2 := ⟨by show (-1 : Int) ≤ 1; decide, by show (1 : Int) < 2; decide, fun j hj hp => by have : (1 : Int) < j := hp; omega⟩
  have f0 : Fit (longRow v) 0 := ⟨⟨by show textsB [] = true; decide, by show (0 : Nat) ≤ 65536; decide⟩, Or.inl ⟨rfl, rfl, rfl, rfl⟩⟩
  have f1 : Fit (longRow v) 1 := ⟨⟨by show textsB [] = true; decide, by show (0 : Nat) ≤ 65536; decide⟩, Or.inr (Or.inl ⟨rfl, Or.inr (Or.inl rfl), nmA_name, rfl⟩)⟩
  have v2 : vlu (longRow v) 2 = v := rfl
  have f2 : Fit (longRow v) 2 ↔ n ≤ 65536 := by
    constructor
    · intro f
      have := f.1.2
      rw [v2, hs] at this
      exact this
    · intro h
      refine ⟨⟨by rw [v2, hv]; exact texts_x n, by rw [v2, hs]; exact h⟩, Or.inr (Or.inr (Or.inr (Or.inl ⟨rfl, Or.inr rfl, rfl, by rw [v2, hs]; omega, fun x => ?_⟩)))⟩
      have : (2 : Nat) = 4 := x.2.2
      omega
  have hd : deepest (longRow v) 3 = 1 := by
    have p0 : par (longRow v) 0 = -1 := rfl
    have p1 : par (longRow v) 1 = 0 := rfl
    have k0 : knd (longRow v) 0 = 1 := rfl
    have k1 : knd (longRow v) 1 = 2 := rfl
    have k2 : knd (longRow v) 2 = 4 := rfl
    have d1 : dep (longRow v) 1 = 1 := by
      rw [dep, dif_pos (by rw [p1]; decide), p1, show (0 : Int).toNat = 0 from rfl, dep, dif_neg (by rw [p0]; decide), k0, k1]
      decide
    simp only [deepest, k0, k1, k2, d1]
    rfl
  unfold judged
  rw [show (longRow v).length = 3 from rfl, if_neg (by omega), hd]
  have hr : (decide (knd (longRow v) 0 = 1) && (decide (tops (longRow v) = 1) && decide (elems (longRow v) = 1))) = true := rfl
  rw [hr]
  have hg : goodB (longRow v) 3 = decide (n ≤ 65536) := by
    show (((true && (decide (Ord (longRow v) 0) && decide (Fit (longRow v) 0))) && (decide (Ord (longRow v) 1) && decide (Fit (longRow v) 1))) && (decide (Ord (longRow v) 2) && decide (Fit (longRow v) 2))) = _
    rw [decide_eq_true o0, decide_eq_true f0, decide_eq_true o1, decide_eq_true f1, decide_eq_true o2, decide_eq_decide.2 f2]
    rfl
  rw [hg]
  by_cases c : n ≤ 65536
  · rw [if_pos c, decide_eq_true c]; rfl
  · rw [if_neg c, decide_eq_false c]; rfl
end Go.Proofs.YtdfgmdddnehocaaDoor
