/-
  PrintNumbers: the walk.
-/
import Derived.Test.YtjdcfaaoicnajaaDoorPTexts
namespace Go.Proofs.YtjdcfaaoicnajaaDoor
open Go.RowKit Go.Maps Go.Lib

def bigP : List Nd := [⟨1, ⟨#[]⟩, ⟨#[]⟩, -1⟩, ⟨5, ⟨#[]⟩, ⟨#[99, 10]⟩, 0⟩, ⟨6, ⟨#[112]⟩, ⟨#[]⟩, 0⟩, ⟨2, ⟨#[101]⟩, ⟨#[]⟩, 0⟩, ⟨3, ⟨#[120]⟩, ⟨#[]⟩, 3⟩, ⟨3, ⟨#[121]⟩, ⟨#[39]⟩, 3⟩, ⟨4, ⟨#[]⟩, ⟨#[93, 93, 62, 13, 10]⟩, 3⟩, ⟨2, ⟨#[102]⟩, ⟨#[]⟩, 3⟩, ⟨5, ⟨#[]⟩, ⟨#[]⟩, 7⟩, ⟨6, ⟨#[113]⟩, ⟨#[118, 63]⟩, 0⟩]
def bigS : List ByteArray := [⟨#[60, 33, 45, 45, 99, 10, 45, 45, 62, 60, 63, 112, 63, 62, 60, 101, 32, 120, 61, 34, 34, 32, 121, 61, 34, 39, 34, 62, 93, 93, 38, 103, 116, 59, 38, 35, 49, 51, 59, 10, 60, 102, 62, 60, 33, 45, 45, 45, 45, 62, 60, 47, 102, 62, 60, 47, 101, 62, 60, 63, 113, 32, 118, 63, 63, 62]⟩, ⟨#[60, 33, 45, 45, 99, 10, 45, 45, 62]⟩, ⟨#[60, 63, 112, 63, 62]⟩, ⟨#[60, 101, 32, 120, 61, 34, 34, 32, 121, 61, 34, 39, 34, 62, 93, 93, 38, 103, 116, 59, 38, 35, 49, 51, 59, 10, 60, 102, 62, 60, 33, 45, 45, 45, 45, 62, 60, 47, 102, 62, 60, 47, 101, 62]⟩, ⟨#[120, 61, 34, 34]⟩, ⟨#[121, 61, 34, 39, 34]⟩, ⟨#[93, 93, 38, 103, 116, 59, 38, 35, 49, 51, 59, 10]⟩, ⟨#[60, 102, 62, 60, 33, 45, 45, 45, 45, 62, 60, 47, 102, 62]⟩, ⟨#[60, 33, 45, 45, 45, 45, 62]⟩, ⟨#[60, 63, 113, 32, 118, 63, 63, 62]⟩]
def oneP : List Nd := [⟨4, ⟨#[]⟩, ⟨#[60]⟩, -1⟩]
theorem bigP_sane : Sane bigP := by
  intro i hi
  have hi : i < 10 := hi
  match i, hi with
  | 0, _ => exact ⟨by decide, by decide, by decide, by decide⟩
  | 1, _ => exact ⟨by decide, by decide, by decide, by decide⟩
  | 2, _ => exact ⟨by decide, by decide, by decide, by decide⟩
  | 3, _ => exact ⟨by decide, by decide, by decide, by decide⟩
  | 4, _ => exact ⟨by decide, by decide, by decide, by decide⟩
  | 5, _ => exact ⟨by decide, by decide, by decide, by decide⟩
  | 6, _ => exact ⟨by decide, by decide, by decide, by decide⟩
  | 7, _ => exact ⟨by decide, by decide, by decide, by decide⟩
  | 8, _ => exact ⟨by decide, by decide, by decide, by decide⟩
  | 9, _ => exact ⟨by decide, by decide, by decide, by decide⟩
theorem oneP_sane : Sane oneP := by
  intro i hi
  have hi : i < 1 := hi
  match i, hi with
  | 0, _ => exact ⟨by decide, by decide, by decide, by decide⟩
theorem Sane.drop {t : List Nd} (h : Sane t) (k : Nat) : Sane (t.drop k) := fun i hi => by
  have := h (k + i) (by simp at hi; omega)
  simpa [knd, par, nam, vlu, nth] using this
theorem Sane.take {t : List Nd} (h : Sane t) (k : Nat) : Sane (t.take k) := fun i hi => by
  rw [List.length_take] at hi
  have := h i (by omega)
  have e : nth (t.take k) i = nth t i := by
    simp [nth, show i < k from by omega]
  simpa [knd, par, nam, vlu, e] using this
set_option maxRecDepth 100000 in
theorem bigP_good : goodB bigP 10 = true := by decide +kernel
theorem bigP_deep : deepest bigP 10 ≤ 60 := by
  have U := (goodB_iff bigP 10).1 bigP_good
  have d0 : dep bigP 0 = 0 := by rw [dep_eq (U 0 (by omega)).1]; rfl
  have d3 : dep bigP 3 = 1 := by
    rw [dep_eq (U 3 (by omega)).1, show par bigP 3 = ((0 : Nat) : Int) from rfl, depI_nat, d0]
    rfl
  have d7 : dep bigP 7 = 2 := by
    rw [dep_eq (U 7 (by omega)).1, show par bigP 7 = ((3 : Nat) : Int) from rfl, depI_nat, d3]
    rfl
  refine (deepest_le 60 10).2 fun i hi hk => ?_
  match i, hi with
  | 0, _ => cases hk
  | 1, _ => cases hk
  | 2, _ => cases hk
  | 3, _ => omega
  | 4, _ => cases hk
  | 5, _ => cases hk
  | 6, _ => cases hk
  | 7, _ => omega
  | 8, _ => cases hk
  | 9, _ => cases hk
theorem bigP_ok : judged bigP (oneB bigP) = 0 := by
  unfold judged
  rw [if_neg (by decide), show bigP.length = 10 from rfl, bigP_good, show oneB bigP = true from by decide, if_neg (by decide), if_neg (by have := bigP_deep; omega)]
theorem bigP_nodeOk : nodeOk bigP = true := by unfold nodeOk; rw [bigP_ok]; rfl
theorem oneP_ok : nodeOk oneP = true := by
  have h : judged oneP (noB oneP) = 0 := by
    unfold judged
    rw [if_neg (by decide), show goodB oneP oneP.length = true from by decide +kernel, show noB oneP = true from by decide, if_neg (by decide), if_neg (by
      have : deepest oneP oneP.length ≤ 60 := (deepest_le 60 _).2 fun i hi hk => by
        have hi : i < 1 := hi
        obtain rfl : i = 0 := by omega
        cases hk
      omega)]
  unfold nodeOk
  rw [h]
  simp
theorem nilP_ok : nodeOk [] = true := by
  have h : judged [] (noB []) = 0 := by
    unfold judged
    rw [if_neg (by decide), show goodB [] ([] : List Nd).length = true from by decide +kernel, show noB [] = true from by decide, if_neg (by decide), if_neg (by
      have : deepest [] ([] : List Nd).length ≤ 60 := (deepest_le 60 _).2 fun i hi hk => absurd hi (Nat.not_lt_zero _)
      omega)]
  unfold nodeOk
  rw [h]
  simp
theorem judged_no {t : List Nd} (h : t.length ≤ 16384) {B : Bool} (hB : B = false) : judged t B = 4 := by
  unfold judged
  rw [if_neg (by omega), hB, Bool.and_false, if_pos rfl]
set_option maxRecDepth 100000 in
theorem bigP_node (i : Nat) (hi : i < 10) : ∃ x, bigS[i]? = some x ∧ mkS (nodeL bigP (i : Int)) = x ∧ nodeE bigP (i : Int) = 0 := by
  have h0 : (0 : Int) ≤ (i : Int) ∧ (i : Int) < (bigP.length : Int) := ⟨by omega, by show (i : Int) < 10; omega⟩
  unfold nodeL nodeE
  rw [if_pos bigP_nodeOk, if_pos bigP_nodeOk, if_pos h0, if_pos h0, show bigP.length = 10 from rfl, Int.toNat_natCast]
  match i, hi with
  | 0, _ => exact ⟨_, rfl, by rw [show outN bigP 10 0 = [60, 33, 45, 45, 99, 10, 45, 45, 62, 60, 63, 112, 63, 62, 60, 101, 32, 120, 61, 34, 34, 32, 121, 61, 34, 39, 34, 62, 93, 93, 38, 103, 116, 59, 38, 35, 49, 51, 59, 10, 60, 102, 62, 60, 33, 45, 45, 45, 45, 62, 60, 47, 102, 62, 60, 47, 101, 62, 60, 63, 113, 32, 118, 63, 63, 62] from by decide +kernel]; rfl, rfl⟩
  | 1, _ => exact ⟨_, rfl, by rw [show outN bigP 10 1 = [60, 33, 45, 45, 99, 10, 45, 45, 62] from by decide +kernel]; rfl, rfl⟩
  | 2, _ => exact ⟨_, rfl, by rw [show outN bigP 10 2 = [60, 63, 112, 63, 62] from by decide +kernel]; rfl, rfl⟩
  | 3, _ => exact ⟨_, rfl, by rw [show outN bigP 10 3 = [60, 101, 32, 120, 61, 34, 34, 32, 121, 61, 34, 39, 34, 62, 93, 93, 38, 103, 116, 59, 38, 35, 49, 51, 59, 10, 60, 102, 62, 60, 33, 45, 45, 45, 45, 62, 60, 47, 102, 62, 60, 47, 101, 62] from by decide +kernel]; rfl, rfl⟩
  | 4, _ => exact ⟨_, rfl, by rw [show outN bigP 10 4 = [120, 61, 34, 34] from by decide +kernel]; rfl, rfl⟩
  | 5, _ => exact ⟨_, rfl, by rw [show outN bigP 10 5 = [121, 61, 34, 39, 34] from by decide +kernel]; rfl, rfl⟩
  | 6, _ => exact ⟨_, rfl, by rw [show outN bigP 10 6 = [93, 93, 38, 103, 116, 59, 38, 35, 49, 51, 59, 10] from by decide +kernel]; rfl, rfl⟩
  | 7, _ => exact ⟨_, rfl, by rw [show outN bigP 10 7 = [60, 102, 62, 60, 33, 45, 45, 45, 45, 62, 60, 47, 102, 62] from by decide +kernel]; rfl, rfl⟩
  | 8, _ => exact ⟨_, rfl, by rw [show outN bigP 10 8 = [60, 33, 45, 45, 45, 45, 62] from by decide +kernel]; rfl, rfl⟩
  | 9, _ => exact ⟨_, rfl, by rw [show outN bigP 10 9 = [60, 63, 113, 32, 118, 63, 63, 62] from by decide +kernel]; rfl, rfl⟩
theorem bigP_print : mkS (printL bigP) = ⟨#[60, 33, 45, 45, 99, 10, 45, 45, 62, 60, 63, 112, 63, 62, 60, 101, 32, 120, 61, 34, 34, 32, 121, 61, 34, 39, 34, 62, 93, 93, 38, 103, 116, 59, 38, 35, 49, 51, 59, 10, 60, 102, 62, 60, 33, 45, 45, 45, 45, 62, 60, 47, 102, 62, 60, 47, 101, 62, 60, 63, 113, 32, 118, 63, 63, 62]⟩ ∧ printE bigP = 0 := by
  unfold printL printE
  rw [if_pos bigP_ok, if_pos bigP_ok, show bigP.length = 10 from rfl, show outN bigP 10 0 = [60, 33, 45, 45, 99, 10, 45, 45, 62, 60, 63, 112, 63, 62, 60, 101, 32, 120, 61, 34, 34, 32, 121, 61, 34, 39, 34, 62, 93, 93, 38, 103, 116, 59, 38, 35, 49, 51, 59, 10, 60, 102, 62, 60, 33, 45, 45, 45, 45, 62, 60, 47, 102, 62, 60, 47, 101, 62, 60, 63, 113, 32, 118, 63, 63, 62] from by decide +kernel]
  exact ⟨rfl, rfl⟩
theorem bigP_drop : mkS (printL (bigP.drop 3)) = ⟨#[]⟩ ∧ printE (bigP.drop 3) = 4 := by
  have h := judged_no (t := bigP.drop 3) (by decide) (B := oneB (bigP.drop 3)) (by decide)
  unfold printL printE
  rw [if_neg (by omega), if_neg (by omega)]
  exact ⟨rfl, rfl⟩
theorem nilP_print : mkS (printL []) = ⟨#[]⟩ ∧ printE [] = 4 := by
  have h := judged_no (t := []) (by decide) (B := oneB []) (by decide)
  unfold printL printE
  rw [if_neg (by omega), if_neg (by omega)]
  exact ⟨rfl, rfl⟩
theorem nilP_node : mkS (nodeL [] 0) = ⟨#[]⟩ ∧ nodeE [] 0 = 2 := by
  unfold nodeL nodeE
  rw [if_pos nilP_ok, if_pos nilP_ok, if_neg (by decide), if_neg (by decide)]
  exact ⟨rfl, rfl⟩
theorem oneP_node : mkS (nodeL oneP 0) = ⟨#[38, 108, 116, 59]⟩ ∧ nodeE oneP 0 = 0 := by
  unfold nodeL nodeE
  rw [if_pos oneP_ok, if_pos oneP_ok, if_pos (by decide), if_pos (by decide), show oneP.length = 1 from rfl, show outN oneP 1 (0 : Int).toNat = [38, 108, 116, 59] from by decide +kernel]
  exact ⟨rfl, rfl⟩
theorem bigP_take : mkS (nodeL (bigP.take 2) 0) = ⟨#[]⟩ ∧ nodeE (bigP.take 2) 0 = 4 := by
  have h := judged_no (t := bigP.take 2) (by decide) (B := oneB (bigP.take 2)) (by decide)
  have h' := judged_no (t := bigP.take 2) (by decide) (B := noB (bigP.take 2)) (by decide)
  have hk : ¬ nodeOk (bigP.take 2) = true := by unfold nodeOk; rw [h, h']; decide
  unfold nodeL nodeE
  rw [if_neg hk, if_neg hk]
  exact ⟨rfl, rfl⟩
theorem bigP_minus : mkS (nodeL bigP (-1)) = ⟨#[]⟩ ∧ nodeE bigP (-1) = 2 := by
  unfold nodeL nodeE
  rw [if_pos bigP_nodeOk, if_pos bigP_nodeOk, if_neg (by decide), if_neg (by decide)]
  exact ⟨rfl, rfl⟩
theorem NodesIn.drop3 {w : World} {b : Nat} (h : NodesIn w b 0 bigP) : NodesIn w b 12 (bigP.drop 3) := fun i hi => by
  have hi : i < 7 := hi
  have := h (3 + i) (by show 3 + i < 10; omega)
  simpa [knd, par, nam, vlu, nth, Nat.add_mul, show 0 + (3 + i) * 4 = 12 + i * 4 from by omega] using this
theorem NodesIn.take2 {w : World} {b : Nat} (h : NodesIn w b 0 bigP) : NodesIn w b 0 (bigP.take 2) := fun i hi => by
  have hi : i < 2 := hi
  have := h i (by show i < 10; omega)
  match i, hi with
  | 0, _ => exact this
  | 1, _ => exact this
theorem byte_bytes (w : World) (i : Nat) (hi : i < 256) : BytesAt (w.alloc (.cells #[.int .u8 (i : Int)] 5)) (some ⟨w.heap.size, 0, none⟩) [UInt8.ofNat i] := by
  have e : (UInt8.ofNat i).toNat = i := by simp; omega
  have : Blk (w.alloc (.cells #[.int .u8 (i : Int)] 5)) w.heap.size [UInt8.ofNat i] := by
    have h := heap_alloc_new w (.cells #[.int .u8 (i : Int)] 5)
    unfold Blk
    rw [h]
    simp [arr, e]
  exact this.bytes
theorem Pcs.kept' {w w' : World} {q : Nat} {ps : List ByteArray} (h : Pcs w q ps) (f : Fr [] w w') : Pcs w' q ps := f.same (by simp) h
end Go.Proofs.YtjdcfaaoicnajaaDoor
