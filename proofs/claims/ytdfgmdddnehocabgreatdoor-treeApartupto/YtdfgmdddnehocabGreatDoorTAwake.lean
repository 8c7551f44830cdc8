/-
  The small tree; awake.
-/
import Derived.Test.YtdfgmdddnehocabGreatDoorTText
namespace Go.Proofs.YtdfgmdddnehocabGreatDoor
open Go.RowKit Go.Maps Go.Lib

def smallL : List Nd := [⟨1, ⟨#[]⟩, ⟨#[]⟩, -1⟩, ⟨2, ⟨#[97]⟩, ⟨#[]⟩, 0⟩, ⟨3, ⟨#[120]⟩, ⟨#[49]⟩, 1⟩, ⟨4, ⟨#[]⟩, ⟨#[116]⟩, 1⟩, ⟨2, ⟨#[98]⟩, ⟨#[]⟩, 1⟩, ⟨4, ⟨#[]⟩, ⟨#[117]⟩, 4⟩]
/-- A row's cells. -/
def ndL (n : Nd) : List Value := [.int .u8 (n.kind : Nat), .string n.name, .string n.value, .int .i64 n.parent]
def rowL : List Nd → List Value
  | [] => []
  | n :: r => ndL n ++ rowL r
theorem rowL_len : ∀ t : List Nd, (rowL t).length = t.length * 4
  | [] => rfl
  | n :: r => by
    have := rowL_len r
    simp only [rowL, List.length_append, List.length_cons, this, ndL, List.length_nil]
    omega
theorem rowL_at : ∀ (t : List Nd) (i f : Nat), f < 4 → i < t.length → (rowL t)[i * 4 + f]? = (ndL (nth t i))[f]?
  | n :: r, 0, f, hf, _ => by
    show (ndL n ++ rowL r)[0 * 4 + f]? = (ndL n)[f]?
    rw [Nat.zero_mul, Nat.zero_add, List.getElem?_append_left (by simpa [ndL] using hf)]
  | n :: r, i + 1, f, hf, hi => by
    have ih := rowL_at r i f hf (by simpa using hi)
    show (ndL n ++ rowL r)[(i + 1) * 4 + f]? = (ndL (nth r i))[f]?
    rw [← ih, List.getElem?_append_right (by simp [ndL]; omega)]
    congr 1
    simp [ndL]
    omega
theorem rowL_app : ∀ a b : List Nd, rowL (a ++ b) = rowL a ++ rowL b
  | [], b => rfl
  | n :: r, b => by
    show ndL n ++ rowL (r ++ b) = (ndL n ++ rowL r) ++ rowL b
    rw [rowL_app r b, List.append_assoc]
theorem nodes_of_cells {w : World} {g : Nat} {T : TypeId} {t : List Nd} {cur : Array Value} (h : w.heap[g]? = some (.cells cur T)) (hc : cur.toList.take (t.length * 4) = rowL t) : NodesIn w g 0 t := by
  intro i hi
  have key : ∀ f, f < 4 → w.cell? ⟨g, 0 + i * 4 + f, none⟩ = (ndL (nth t i))[f]? := fun f hf => by
    rw [Nat.zero_add, cell_of_row w g _ _ _ _ h, ← rowL_at t i f hf hi, ← hc, List.getElem?_take, if_pos (by omega)]
    simp
  exact ⟨key 0 (by omega), key 1 (by omega), key 2 (by omega), key 3 (by omega)⟩
set_option maxHeartbeats 4000000 in
set_option maxRecDepth 100000 in
theorem small_any (w : World) :
    Calls Tryz.prog 12 #[] w fun e w' => (∃ g, e = .returned (.slice (some ⟨g, 0, none⟩) 6 6) ∧ NodesIn w' g 0 smallL) ∧ Fr [] w w' := by
  go_enter Tryz.func12, Tryz.ntmps12
  go_wp2
  go_ret
  exact ⟨⟨w.heap.size, rfl, nodes_of_cells (heap_alloc_new w _) rfl⟩, (Fr.refl _ _).alloc _⟩
theorem small_sane : Sane smallL := by
  intro i hi
  have hi : i < 6 := hi
  match i, hi with
  | 0, _ => exact ⟨by decide, by decide, by decide, by decide⟩
  | 1, _ => exact ⟨by decide, by decide, by decide, by decide⟩
  | 2, _ => exact ⟨by decide, by decide, by decide, by decide⟩
  | 3, _ => exact ⟨by decide, by decide, by decide, by decide⟩
  | 4, _ => exact ⟨by decide, by decide, by decide, by decide⟩
  | 5, _ => exact ⟨by decide, by decide, by decide, by decide⟩
theorem small_good : goodB smallL 6 = true := by decide
theorem small_deep : deepest smallL 6 ≤ 60 := by
  have U := (goodB_iff smallL 6).1 small_good
  have d0 : dep smallL 0 = 0 := by rw [dep_eq (U 0 (by omega)).1]; rfl
  have d1 : dep smallL 1 = 1 := by
    rw [dep_eq (U 1 (by omega)).1, show par smallL 1 = ((0 : Nat) : Int) from rfl, depI_nat, d0]
    rfl
  have d4 : dep smallL 4 = 2 := by
    rw [dep_eq (U 4 (by omega)).1, show par smallL 4 = ((1 : Nat) : Int) from rfl, depI_nat, d1]
    rfl
  refine (deepest_le 60 6).2 fun i hi hk => ?_
  match i, hi with
  | 0, _ => cases hk
  | 1, _ => omega
  | 2, _ => cases hk
  | 3, _ => cases hk
  | 4, _ => omega
  | 5, _ => cases hk
theorem small_judged : judged smallL (oneB smallL) = 0 := by
  unfold judged
  rw [if_neg (by decide), show smallL.length = 6 from rfl, small_good, show oneB smallL = true by decide, if_neg (by decide), if_neg (by have := small_deep; omega)]
theorem small_ok : okT smallL = true := by
  unfold okT
  rw [if_pos (by decide), small_judged]
  rfl
theorem small_has (k : Nat) (h : k < 6) : hasB smallL k = true := by
  unfold hasB
  rw [small_ok, decide_eq_true (by show (0 : Int) ≤ k ∧ (k : Int) < ((6 : Nat) : Int); omega)]
  rfl
theorem small_end4 : endS smallL 4 = 6 := by
  unfold endS
  rw [if_pos (show hasB smallL 4 = true from small_has 4 (by decide))]
  decide
theorem small_text1 : textS smallL 1 = [116, 117] := by
  unfold textS
  rw [if_pos (show hasB smallL 1 = true from small_has 1 (by decide))]
  decide
theorem small_foll : str smallL (endOf smallL (2 : Nat)) 6 = [3, 4, 5] := by decide

set_option maxHeartbeats 4000000 in
theorem Go_foll (w : World) (L : LaidW w) (b off c : Nat) (t : List Nd) (hI : NodesIn w b off t) (hS : Sane t) (k : Nat) (hh : hasB t k = true) :
    Calls Tryz.prog 11 #[.slice (some ⟨b, off, none⟩) t.length c, .int .i64 (k : Int), .int .u8 7] w fun e w' => (∃ v, e = .returned v ∧ Ints w w' v (str t (endOf t k) t.length)) ∧ Fr [] w w' := by
  have cH := Hid.mk (has_any w L (some ⟨b, off, none⟩) c t.length t rfl hI.at hS k)
  rw [hh] at cH
  unfold hasB at hh
  rw [Bool.and_eq_true, decide_eq_true_eq] at hh
  have hl := ok_len hh.2
  have hk : k < t.length := by omega
  have HI := Hid.mk hI
  have hEl := end_len t k hk
  obtain ⟨E, hE⟩ : ∃ E, endOf t k = E := ⟨_, rfl⟩
  rw [hE] at hEl ⊢
  have HE := Hid.mk hE
  clear hS L hh hI hE
  go_enter Tryz.func11, Tryz.ntmps11
  go_wp2_with (first
    | (go_at_call 18; refine cH.out.mono ?_; rintro e w5 ⟨rfl, f5⟩)
    | (go_at_call 20; refine (end_any _ b off c t (HI.out.kept f5 (by simp)) hl k hk).mono ?_; rw [HE.out]; rintro e w6 ⟨rfl, f6⟩)
    | (go_at_call 29; refine (stretch_any _ b off c t (HI.out.kept (f5.trans f6) (by simp)) hl E t.length (Nat.le_refl _) hEl).mono ?_; rintro e w7 ⟨⟨v, rfl, hv⟩, f7⟩))
  go_ret
  exact ⟨⟨v, rfl, hv.from (f5.trans f6)⟩, (f5.trans f6).trans f7⟩
set_option maxHeartbeats 8000000 in
set_option maxRecDepth 100000 in
theorem awake_any (w : World) (L : LaidW w) :
    Calls Tryz.prog 4 #[] w fun e w' => e = .returned (.bool true) ∧ Fr [] w w' := by
  have HL := Hid.mk L
  have hTL : (mkS [116, 117]).toList = [116, 117] := toList_eq _
  clear L
  go_enter Tryz.func4, Tryz.ntmps4
  go_wp2_with (first
    | (go_at_call 12; refine (small_any _).mono ?_; rintro e w1 ⟨⟨g, rfl, hN⟩, f1⟩; have HN := Hid.mk hN; clear hN)
    | (go_at_call 11; refine (Go_foll _ (HL.out.kept f1) g 0 6 smallL HN.out small_sane 2 (small_has 2 (by decide))).mono ?_; rw [show smallL.length = 6 from rfl, small_foll]; rintro e w2 ⟨⟨v, rfl, hv⟩, f2⟩; obtain ⟨g2, cap2, rfl, hg2, hc2⟩ := hv.at (i := 0) (by decide); have f12 := f1.trans f2; have HV := Hid.mk hv; clear hv hc2)
    | (go_at_call 13; refine (check_some _ (HL.out.kept f12) g 0 6 smallL (HN.out.kept f2 (by simp)) small_sane).mono ?_; rw [small_judged]; rintro e w3 ⟨rfl, f3⟩)
    | (go_at_call 14; refine (Text_any _ (HL.out.kept (f12.trans f3)) (some ⟨g, 0, none⟩) 6 6 smallL rfl (Nat.le_refl _) (HN.out.kept (f2.trans f3) (by simp)).at small_sane 1).mono ?_; rw [small_text1]; rintro e w4 ⟨rfl, f4⟩; obtain ⟨g3, cap3, he3, hg3, hc3⟩ := (HV.out.kept0 (f3.trans f4)).at (i := 0) (by decide))
    | (go_at_call 15; refine (End_any _ (HL.out.kept ((f12.trans f3).trans f4)) (some ⟨g, 0, none⟩) 6 6 smallL rfl (HN.out.kept ((f2.trans f3).trans f4) (by simp)).at small_sane 4).mono ?_; rw [small_end4]; rintro e w5 ⟨rfl, f5⟩)
    | go_in)
  go_ret
  exact ⟨rfl, ((f12.trans f3).trans f4).trans f5⟩
end Go.Proofs.YtdfgmdddnehocabGreatDoor
