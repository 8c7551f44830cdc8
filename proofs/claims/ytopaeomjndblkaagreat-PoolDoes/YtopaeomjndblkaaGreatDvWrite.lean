/-
  The device's Write: what it answers, and what it leaves.
-/
import Derived.Test.YtopaeomjndblkaaGreatDvRead
namespace Go.Proofs.YtopaeomjndblkaaGreat.Dv
open Go.RowKit Go.Maps

set_option maxHeartbeats 400000 in
theorem write_none (w : World) (v s : Value) (k : Int) (h : NoDev w v) : Calls Tryz.prog 129 #[v, .int .i64 k, s] w fun e w' => e = .returned (.int .i64 1) ∧ w' = w := by
  go_enter Tryz.func129, Tryz.ntmps129
  go_wp2_with (go_at_call 182; refine (reach_none _ _ _ h).mono ?_; rintro e w ⟨rfl, rfl⟩)
  go_ret
  exact ⟨rfl, rfl⟩

set_option maxHeartbeats 400000 in
theorem write_err {w : World} {p bs bo : Nat} {n a : Int} {dn : Bool} {S O : Tab} (h : Dev w p bs bo n a dn S O) (k : Int) (s : Value) (hr : reached n k dn ≠ 0) :
    Calls Tryz.prog 129 #[.pointer (some ⟨p, 0, none⟩), .int .i64 k, s] w fun e w' => e = .returned (.int .i64 (reached n k dn)) ∧ w' = w := by
  have hb : (reached n k dn == 0) = false := by simpa using hr
  go_enter Tryz.func129, Tryz.ntmps129
  go_wp2_with (go_at_call 182; refine (reach_dev h k).mono ?_; rintro e w ⟨rfl, rfl⟩)
  go_ret
  exact ⟨rfl, rfl⟩

set_option maxHeartbeats 400000 in
theorem write_arg {w : World} {p bs bo : Nat} {n a : Int} {S O : Tab} (h : Dev w p bs bo n a false S O) (k : Int) (h0 : 0 ≤ k) (h1 : k < n) (ad : Option Addr) (m c : Nat) (hm : m ≠ 512) :
    Calls Tryz.prog 129 #[.pointer (some ⟨p, 0, none⟩), .int .i64 k, .slice ad m c] w fun e w' => e = .returned (.int .i64 2) ∧ w' = w := by
  have hr : reached n k false = 0 := by simp [reached]; omega
  have hb : ((m : Int) == 512) = false := by simp; omega
  go_enter Tryz.func129, Tryz.ntmps129
  go_wp2_with (go_at_call 182; refine (reach_dev h k).mono ?_; rw [hr]; rintro e w ⟨rfl, rfl⟩)
  go_ret
  exact ⟨rfl, rfl⟩

/-- What a slice of 512 bytes lies over. -/
def Src (w : World) (b off : Nat) (l : List UInt8) : Prop := ∀ j v, (arr l).toList[j]? = some v → w.cell? ⟨b, off + j, none⟩ = some v

theorem Src.kept {w w' : World} {b off : Nat} {l : List UInt8} {L : List Nat} (h : Src w b off l) (k : Fr L w w') (hb : b ∉ L) : Src w' b off l := by
  intro j v hv
  have hc := h j v hv
  have hlt := block_lt_of_cell hc
  rw [← hc]
  exact World.cell?_of_block (k.block b hlt hb)

set_option maxHeartbeats 1000000 in
set_option maxRecDepth 100000 in
theorem write_dev {w : World} {p bs bo : Nat} {n a : Int} {S O : Tab} (h : Dev w p bs bo n a false S O) (k : Int) (h0 : 0 ≤ k) (h1 : k < n) (b off c : Nat) (l : List UInt8) (hl : l.length = 512) (hsrc : Src w b off l) :
    Calls Tryz.prog 129 #[.pointer (some ⟨p, 0, none⟩), .int .i64 k, .slice (some ⟨b, off, none⟩) 512 c] w fun e w' =>
      e = .returned (.int .i64 (told (crash a))) ∧ Dev w' p bs bo n (left a) (crash a) S (O.put k l) ∧ Fr [p, bo] w w' := by
  have hr : reached n k false = 0 := by simp [reached]; omega
  have hn2 := h.n2
  have hk : (Lit.int .i64 k).wf = true := WalkArith.wf_i64 (by omega)
  have hblt : b < w.heap.size := block_lt_of_cell (hsrc 0 _ (by simp [arr, List.getElem?_eq_getElem (show 0 < l.length by omega)]; rfl))
  go_enter Tryz.func129, Tryz.ntmps129
  go_wp2_with (first
    | (go_at_call 182; refine (reach_dev h k).mono ?_; rw [hr]; rintro e w ⟨rfl, rfl⟩)
    | (refine wp_alloc72 rfl rfl ?_; intro w1 b1 f1 s1; have d1 := h.kept f1 (by simp) (by simp) (by simp); have src1 := hsrc.kept f1 (by simp))
    | (refine wp_copy512 rfl _ _ rfl _ _ _ _ _ 185 zeros l rfl rfl b1 zeros_length hl src1 ?_; intro w2 b2 f2; have d2 := h.fresh d1 (Nat.le_refl _) f2)
    | go_in)
  have c4 := d2.cell4
  have hu := Tryz.underlying185
  have hi : (Tryz.prog.info? 185).map (·.size) = some (arr l).toList.length := by rw [size72]; simp [arr, hl]
  have hln : (arr l).toList.length = 512 := by simp [arr, hl]
  have hon := arr_one l
  have hrg : w2.rangeAt w.heap.size 0 (arr l).toList := fun j v hv => b2.src j v hv
  obtain ⟨w3, hrun, t3, f3⟩ := run_tab_put d2.drew.opn h0 (by omega) hl
  have hlt := h.lt
  have d3 : Dev w3 p bs bo n a false S (O.put k l) := { d2.drew with cells := f3.same (by simp; exact d2.ne2) d2.drew.cells, safe := d2.drew.safe.kept f3 (by simp; exact d2.ne3), opn := t3 }
  have k4 := d3.cell4
  have b3 : Blk w3 w.heap.size 185 l := f3.same (by simp; omega) b2
  have kr : w3.rangeAt w.heap.size 0 (arr l).toList := fun j v hv => b3.src j v hv
  go_region_held3 (fun w' => w'.cell? ⟨p, 4, none⟩ = some (.map (some bo)) ∧ w'.rangeAt w.heap.size 0 (arr l).toList) (first | exact ⟨k4, kr⟩ | go_keep_ranges) (fail)
  have hfr : Fr [p, bo] w w3 := ((f1.then f2 (fun i hi hm => by simp at hm; omega)).drew.mono (M := [p, bo]) (by simp)).then f3 (fun i hi hm => by simp at hm ⊢; exact Or.inr hm)
  clear hrun hu hi hln hon c4 k4 kr hrg
  go_wp2_with (go_at_call 207; refine (count_dev d3).mono ?_; rintro e w4 ⟨rfl, d4, f4⟩)
  go_ret
  exact ⟨rfl, d4, hfr.then f4 (fun i hi hm => by simp at hm ⊢; exact Or.inl hm)⟩

end Go.Proofs.YtopaeomjndblkaaGreat.Dv
