/-
  The law's own helpers: full (a block of a byte), Pick (a number brought into a range).
-/
import Derived.Test.YtkenkgfohgmpnaaWake
namespace Go.Proofs.Ytkenkgfohgmpnaa
open Go.RowKit Go.Maps

/-- The byte at place j of a block of k. -/
def fullB (k : Int) (j : Nat) : UInt8 := UInt8.ofNat ((k.toNat + j / 64) % 256)
def fullTo (k : Int) (i : Nat) : List UInt8 := (List.range 512).map fun j => if j < i then fullB k j else 0
def fullL (k : Int) : List UInt8 := (List.range 512).map fun j => fullB k j

theorem fullTo_length (k : Int) (i : Nat) : (fullTo k i).length = 512 := by simp [fullTo]
theorem fullL_length (k : Int) : (fullL k).length = 512 := by simp [fullL]
theorem fullTo_zero (k : Int) : fullTo k 0 = zeros := by
  unfold fullTo zeros
  simp [List.map_const']
theorem fullTo_all (k : Int) : fullTo k 512 = fullL k := by
  unfold fullTo fullL
  apply List.map_congr_left
  intro j hj
  simp at hj
  simp [hj]
theorem fullTo_step (k : Int) (i : Nat) : (fullTo k i).set i (fullB k i) = fullTo k (i + 1) := by
  apply List.ext_getElem
  · simp [fullTo_length]
  · intro j h1 h2
    rw [List.getElem_set]
    simp [fullTo]
    by_cases e : i = j
    · subst e; simp
    · have : (j < i + 1) ↔ (j < i) := by omega
      simp [e, this]

theorem Blk.cell {w : World} {g : Nat} {t : TypeId} {l : List UInt8} (h : Blk w g t l) (j : Nat) (hj : j < l.length) : w.cell? ⟨g, j, none⟩ = some (.int .u8 l[j].toNat) := by
  rw [cell_of_row w g j _ _ _ h, arr_at, List.getElem?_eq_getElem hj]; rfl
theorem Blk.frozen {w : World} {g : Nat} {t : TypeId} {l : List UInt8} (h : Blk w g t l) (j : Nat) : w.frozen? ⟨g, j, none⟩ = false := frozen_of_row w g j _ _ h
theorem Blk.set {w : World} {g : Nat} {t : TypeId} {l : List UInt8} (h : Blk w g t l) (j : Nat) (b : UInt8) : Blk (w.setCell ⟨g, j, none⟩ (.int .u8 b.toNat)) g t (l.set j b) := by
  have := heap_setCell_same w g j _ _ (.int .u8 b.toNat) h
  unfold Blk
  rw [this]
  simp [arr, List.map_set]

set_option maxHeartbeats 1000000 in
set_option maxRecDepth 100000 in
theorem full_any (w : World) (k : Int) (h0 : 0 ≤ k) (h1 : k < 256) :
    Calls Try.prog 28 #[.int .u8 k] w fun e w' => e = .returned (.slice (some ⟨w.heap.size, 0, none⟩) 512 512) ∧ Blk w' w.heap.size 5 (fullL k) ∧ Fr [] w w' := by
  go_enter Try.func28, Try.ntmps28
  go_wp2_with (first
    | (refine wp_make512 rfl rfl ?_; intro w1 b1 f1 s1)
    | go_in)
  go_loopw [4] (fun i wr => ∃ j : Nat, j ≤ 512 ∧ i = .int .i64 j ∧ Blk wr w.heap.size 5 (fullTo k j) ∧ Fr [w.heap.size] w1 wr) (fun i _ => 512 - (intOf i).toNat)
  case atStart => exact ⟨0, by omega, rfl, by rw [fullTo_zero]; exact b1, Fr.refl _ _⟩
  case round =>
    obtain ⟨j, hj, rfl, bj, fr⟩ := hrel
    by_cases hlt : j < 512
    · have hlt' : (j : Int) < 512 := by omega
      have hj0 : (0 : Int) ≤ (j : Int) := by omega
      have hc := bj.cell j (by rw [fullTo_length]; exact hlt)
      have hfz := bj.frozen j
      have hv : (((fullB k j).toNat : Nat) : Int) = (k + (j : Int) / 64) % 256 := by
        unfold fullB
        rw [UInt8.toNat_ofNat']
        omega
      have HV : Hid ((((fullB k j).toNat : Nat) : Int) = (k + (j : Int) / 64) % 256) := hv
      clear hv
      have bs := bj.set j (fullB k j)
      rw [fullTo_step, HV.out] at bs
      go_wp2
      exact ⟨⟨j + 1, by omega, by go_num, bs, fr.setCell _ _ (by simp)⟩, by simp [intOf]; omega⟩
    · obtain rfl : j = 512 := by omega
      rw [fullTo_all] at bj
      go_wp2
      go_ret
      exact ⟨rfl, bj, f1.then fr (fun i hi hm => by simp at hm; omega)⟩

end Go.Proofs.Ytkenkgfohgmpnaa
