/-
  The kit's bag: it is apart where its lists of bytes are.
-/
import Derived.Test.YtlfpoeimgoikkaaAbFlat
namespace Go.Proofs.Ytlfpoeimgoikkaa.Ab
open Go.RowKit

/-- A bag that holds lists of bytes alone. -/
def Bag (w : World) (p : Nat) (v : Value) : Prop := w.heap[p]? = some (.cells #[.slice none 0 0, .slice none 0 0, .slice none 0 0, .slice none 0 0, v, .slice none 0 0, .slice none 0 0, .slice none 0 0, .slice none 0 0, .slice none 0 0, .slice none 0 0, .slice none 0 0, .slice none 0 0, .slice none 0 0, .slice none 0 0, .slice none 0 0, .slice none 0 0, .slice none 0 0] 73)
theorem Bag.kept {w w' : World} {p : Nat} {v : Value} {L : List Nat} (h : Bag w p v) (k : Fr L w w') (hp : p ∉ L) : Bag w' p v := k.same hp h
theorem Bag.c0 {w : World} {p : Nat} {v : Value} (h : Bag w p v) : w.cell? ⟨p, 0, none⟩ = some (.slice none 0 0) := by rw [cell_of_row w p 0 _ _ _ h]; rfl
theorem Bag.c1 {w : World} {p : Nat} {v : Value} (h : Bag w p v) : w.cell? ⟨p, 1, none⟩ = some (.slice none 0 0) := by rw [cell_of_row w p 1 _ _ _ h]; rfl
theorem Bag.c2 {w : World} {p : Nat} {v : Value} (h : Bag w p v) : w.cell? ⟨p, 2, none⟩ = some (.slice none 0 0) := by rw [cell_of_row w p 2 _ _ _ h]; rfl
theorem Bag.c3 {w : World} {p : Nat} {v : Value} (h : Bag w p v) : w.cell? ⟨p, 3, none⟩ = some (.slice none 0 0) := by rw [cell_of_row w p 3 _ _ _ h]; rfl
theorem Bag.c4 {w : World} {p : Nat} {v : Value} (h : Bag w p v) : w.cell? ⟨p, 4, none⟩ = some (v) := by rw [cell_of_row w p 4 _ _ _ h]; rfl
theorem Bag.c5 {w : World} {p : Nat} {v : Value} (h : Bag w p v) : w.cell? ⟨p, 5, none⟩ = some (.slice none 0 0) := by rw [cell_of_row w p 5 _ _ _ h]; rfl
theorem Bag.c6 {w : World} {p : Nat} {v : Value} (h : Bag w p v) : w.cell? ⟨p, 6, none⟩ = some (.slice none 0 0) := by rw [cell_of_row w p 6 _ _ _ h]; rfl
theorem Bag.c7 {w : World} {p : Nat} {v : Value} (h : Bag w p v) : w.cell? ⟨p, 7, none⟩ = some (.slice none 0 0) := by rw [cell_of_row w p 7 _ _ _ h]; rfl
theorem Bag.c8 {w : World} {p : Nat} {v : Value} (h : Bag w p v) : w.cell? ⟨p, 8, none⟩ = some (.slice none 0 0) := by rw [cell_of_row w p 8 _ _ _ h]; rfl
theorem Bag.c9 {w : World} {p : Nat} {v : Value} (h : Bag w p v) : w.cell? ⟨p, 9, none⟩ = some (.slice none 0 0) := by rw [cell_of_row w p 9 _ _ _ h]; rfl
theorem Bag.c10 {w : World} {p : Nat} {v : Value} (h : Bag w p v) : w.cell? ⟨p, 10, none⟩ = some (.slice none 0 0) := by rw [cell_of_row w p 10 _ _ _ h]; rfl
theorem Bag.c11 {w : World} {p : Nat} {v : Value} (h : Bag w p v) : w.cell? ⟨p, 11, none⟩ = some (.slice none 0 0) := by rw [cell_of_row w p 11 _ _ _ h]; rfl
theorem Bag.c12 {w : World} {p : Nat} {v : Value} (h : Bag w p v) : w.cell? ⟨p, 12, none⟩ = some (.slice none 0 0) := by rw [cell_of_row w p 12 _ _ _ h]; rfl
theorem Bag.c13 {w : World} {p : Nat} {v : Value} (h : Bag w p v) : w.cell? ⟨p, 13, none⟩ = some (.slice none 0 0) := by rw [cell_of_row w p 13 _ _ _ h]; rfl
theorem Bag.c14 {w : World} {p : Nat} {v : Value} (h : Bag w p v) : w.cell? ⟨p, 14, none⟩ = some (.slice none 0 0) := by rw [cell_of_row w p 14 _ _ _ h]; rfl
theorem Bag.c15 {w : World} {p : Nat} {v : Value} (h : Bag w p v) : w.cell? ⟨p, 15, none⟩ = some (.slice none 0 0) := by rw [cell_of_row w p 15 _ _ _ h]; rfl
theorem Bag.c16 {w : World} {p : Nat} {v : Value} (h : Bag w p v) : w.cell? ⟨p, 16, none⟩ = some (.slice none 0 0) := by rw [cell_of_row w p 16 _ _ _ h]; rfl
theorem Bag.c17 {w : World} {p : Nat} {v : Value} (h : Bag w p v) : w.cell? ⟨p, 17, none⟩ = some (.slice none 0 0) := by rw [cell_of_row w p 17 _ _ _ h]; rfl

set_option maxHeartbeats 4000000 in
set_option maxRecDepth 100000 in
theorem bag_apart_any (w : World) (p : Nat) (v : Value) (L : List Nat) (bg : Bag w p v) (hp : p ∉ L) (hf : ∀ w', Fr [] w w' → Calls Try.prog 62 #[v] w' fun e w'' => e = .returned (.bool true) ∧ Fr L w' w'') :
    Calls Try.prog 45 #[.pointer (some ⟨p, 0, none⟩)] w fun e w' => e = .returned (.bool true) ∧ Fr L w w' := by
  have hF : Hid (∀ w', Fr [] w w' → Calls Try.prog 62 #[v] w' fun e w'' => e = .returned (.bool true) ∧ Fr L w' w'') := hf
  clear hf
  have gg := Fr.refl [] w
  have d0 := bg.c0
  go_enter Try.func45, Try.ntmps45
  go_wp2_with (first | (go_at_call 58; refine (flatWords_nil _).mono ?_; rintro e w5 ⟨rfl, f5⟩; replace gg := gg.trans f5; have d1 := (bg.kept gg (by simp)).c1) | (go_at_call 59; refine (flatInts_nil _).mono ?_; rintro e w5 ⟨rfl, f5⟩; replace gg := gg.trans f5; have d2 := (bg.kept gg (by simp)).c2) | (go_at_call 60; refine (flatLongs_nil _).mono ?_; rintro e w5 ⟨rfl, f5⟩; replace gg := gg.trans f5; have d3 := (bg.kept gg (by simp)).c3) | (go_at_call 61; refine (flatTexts_nil _).mono ?_; rintro e w5 ⟨rfl, f5⟩; replace gg := gg.trans f5; have d4 := (bg.kept gg (by simp)).c4) | (go_at_call 62; refine (hF.out _ gg).mono ?_; rintro e w5 ⟨rfl, f5⟩; have gl := (gg.mono (M := L) (fun _ _ h => nomatch h)).trans f5; clear gg; have gg := gl; have d5 := (bg.kept gg hp).c5) | (go_at_call 63; refine (flatNodes_nil _).mono ?_; rintro e w5 ⟨rfl, f5⟩; replace gg := gg.then f5 (fun _ _ h => nomatch h); have d6 := (bg.kept gg hp).c6) | (go_at_call 64; refine (flatFates_nil _).mono ?_; rintro e w5 ⟨rfl, f5⟩; replace gg := gg.then f5 (fun _ _ h => nomatch h); have d7 := (bg.kept gg hp).c7) | (go_at_call 65; refine (flatSpans_nil _).mono ?_; rintro e w5 ⟨rfl, f5⟩; replace gg := gg.then f5 (fun _ _ h => nomatch h); have d8 := (bg.kept gg hp).c8) | (go_at_call 66; refine (flatDirties_nil _).mono ?_; rintro e w5 ⟨rfl, f5⟩; replace gg := gg.then f5 (fun _ _ h => nomatch h); have d9 := (bg.kept gg hp).c9) | (go_at_call 67; refine (flatRecords_nil _).mono ?_; rintro e w5 ⟨rfl, f5⟩; replace gg := gg.then f5 (fun _ _ h => nomatch h); have d10 := (bg.kept gg hp).c10) | (go_at_call 68; refine (flatCells_nil _).mono ?_; rintro e w5 ⟨rfl, f5⟩; replace gg := gg.then f5 (fun _ _ h => nomatch h); have d11 := (bg.kept gg hp).c11) | (go_at_call 69; refine (flatHelds_nil _).mono ?_; rintro e w5 ⟨rfl, f5⟩; replace gg := gg.then f5 (fun _ _ h => nomatch h); have d12 := (bg.kept gg hp).c12) | (go_at_call 70; refine (flatTokens_nil _).mono ?_; rintro e w5 ⟨rfl, f5⟩; replace gg := gg.then f5 (fun _ _ h => nomatch h); have d13 := (bg.kept gg hp).c13) | (go_at_call 71; refine (flatExprs_nil _).mono ?_; rintro e w5 ⟨rfl, f5⟩; replace gg := gg.then f5 (fun _ _ h => nomatch h); have d14 := (bg.kept gg hp).c14) | (go_at_call 72; refine (flatItems_nil _).mono ?_; rintro e w5 ⟨rfl, f5⟩; replace gg := gg.then f5 (fun _ _ h => nomatch h); have d15 := (bg.kept gg hp).c15) | (go_at_call 73; refine (flatShowns_nil _).mono ?_; rintro e w5 ⟨rfl, f5⟩; replace gg := gg.then f5 (fun _ _ h => nomatch h); have d16 := (bg.kept gg hp).c16) | (go_at_call 74; refine (flatParts_nil _).mono ?_; rintro e w5 ⟨rfl, f5⟩; replace gg := gg.then f5 (fun _ _ h => nomatch h); have d17 := (bg.kept gg hp).c17) | (go_at_call 75; refine (flatCommands_nil _).mono ?_; rintro e w5 ⟨rfl, f5⟩; replace gg := gg.then f5 (fun _ _ h => nomatch h)))
  go_ret
  exact ⟨rfl, gg⟩

end Go.Proofs.Ytlfpoeimgoikkaa.Ab
